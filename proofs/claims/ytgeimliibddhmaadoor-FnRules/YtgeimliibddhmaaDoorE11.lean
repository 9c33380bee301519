/-
  The first minute of a day that fires, and how many do, as the program tells it: the walks. The next time that a rule fires, as the specification tells it: the walk. When a rule fires, day by day: plain facts, and the program's two walks over a day.
-/
import Derived.Test.YtgeimliibddhmaaDoorE3
namespace Go.Proofs.YtgeimliibddhmaaDoor
open Go Go.RowKit
set_option linter.unusedVariables false

/-- The time of a minute is among the flags. -/
def timeQ (r : Nat → Nat → Bool) (m : Int) : Bool := r 1 (m % 1440 / 60).toNat && r 0 (m % 60).toNat
/-- The first of a day. -/
def FdP (r : Nat → Nat → Bool) (bg en : Int) (q : Bool) (o : Option Int) : Prop := (q = false → o = none) ∧ (q = true → Least (timeQ r) bg en o)
set_option maxHeartbeats 400000 in
theorem dayBehind_any (m : Int) (w : World) (h0 : 0 ≤ m) (h1 : m ≤ 4611686018427387904) :
    Calls Tryd.prog 52 #[.int .i64 m] w fun e w' => e = .returned (.int .i64 ((m / 1440 + 1) * 1440)) ∧ w' = w := by
  go_enter Tryd.func52, Tryd.ntmps52
  go_wp2
  go_ret
  refine ⟨congrArg (fun x => Ending.returned (.int .i64 x)) ?_, rfl⟩
  omega

set_option maxRecDepth 10000 in
set_option maxHeartbeats 2000000 in
theorem firstOfDay_try (r : Nat → Nat → Bool) (bg en : Int) (q : Bool) (w : World) (h0 : 0 ≤ bg) (h1 : en ≤ 1152921504606846976) (hq : ∀ W, Below w.heap.size w W → Calls Tryd.prog 56 #[.agg (rulA r), .int .i64 bg] W fun x w' => x = .returned (.bool q) ∧ Below W.heap.size W w') :
    Calls Tryd.prog 53 #[.agg (rulA r), .int .i64 bg, .int .i64 en] w fun x w' => ∃ o : Option Int, x = .returned (.tuple #[.int .i64 (o.getD 0), .bool o.isSome]) ∧ FdP r bg en q o ∧ Below w.heap.size w w' := by
  have HQ : Hid (∀ W, Below w.heap.size w W → Calls Tryd.prog 56 #[.agg (rulA r), .int .i64 bg] W fun x w' => x = .returned (.bool q) ∧ Below W.heap.size W w') := hq
  have HT : Hid (∀ (m : Int) (W : World), 0 ≤ m → m ≤ 4611686018427387904 → Calls Tryd.prog 57 #[.agg (rulA r), .int .i64 m] W fun e w' => e = .returned (.bool (timeQ r m)) ∧ Below W.heap.size W w') := fun m W g0 g1 => atTime_any r m W g0 g1
  clear hq
  go_enter Tryd.func53, Tryd.ntmps53
  obtain ⟨W, hW⟩ : ∃ W, w.alloc (.cells (rulA r) 57) = W := ⟨_, rfl⟩
  have HZ : Hid (Rb W w.heap.size r) := by show Rb _ _ _; rw [← hW]; exact Rb.new _ _ 57 rfl
  have hb : Below w.heap.size w W := by rw [← hW]; exact ba (Below.refl _ _) _
  go_wp2_with (first | (rw [hW]; clear hW) | (refine wpr_load HZ.out (.tmp 3) rfl rfl rfl ?_))
  refine (HQ.out _ hb).mono ?_
  rintro x w1 ⟨rfl, hb1⟩
  have B1 := Below.on hb hb1
  have HZ1 : Hid (Rb w1 w.heap.size r) := HZ.out.up hb1
  clear hb hb1 HZ HQ
  cases q with
  | false =>
    go_wp2
    go_ret2
    exact ⟨none, rfl, ⟨fun _ => rfl, fun h => (by cases h)⟩, B1⟩
  | true =>
    have HB : Hid (Below w.heap.size w w1) := B1
    clear B1
    go_wp2
    go_loopw [8] (fun i wr => ∃ m : Int, bg ≤ m ∧ (m ≤ en ∨ m = bg) ∧ i = .int .i64 m ∧ Hid (∀ x, bg ≤ x → x < m → timeQ r x = false) ∧ Hid (Rb wr w.heap.size r ∧ Below w.heap.size w wr)) (fun i _ => (en - intOf i).toNat)
    case atStart => exact ⟨bg, Int.le_refl _, .inr rfl, rfl, fun x g0 g1 => absurd g1 (by omega), HZ1.out, HB.out⟩
    case round =>
      obtain ⟨m, hm0, hm1, rfl, HP, HS⟩ := hrel
      clear HZ1 HB
      by_cases hlt : m < en
      · obtain ⟨t, ht⟩ : ∃ t, timeQ r m = t := ⟨_, rfl⟩
        have HTT : Hid (timeQ r m = t) := ht
        have HT2 : Hid (∀ W : World, Calls Tryd.prog 57 #[.agg (rulA r), .int .i64 m] W fun e w' => e = .returned (.bool t) ∧ Below W.heap.size W w') := fun W => by rw [← ht]; exact HT.out m W (by omega) (by omega)
        clear ht
        go_wp2_with (refine wpr_load HS.out.1 (.tmp 3) rfl rfl rfl ?_)
        refine (HT2.out _).mono ?_
        rintro x w2 ⟨rfl, hb2⟩
        have HS2 : Hid (Rb w2 w.heap.size r ∧ Below w.heap.size w w2) := ⟨HS.out.1.up hb2, Below.on HS.out.2 hb2⟩
        clear hb2
        cases t with
        | true =>
          have HL : Hid (Least (timeQ r) bg en (some m)) := ⟨hm0, hlt, HTT.out, HP.out⟩
          go_wp2
          go_ret2
          exact ⟨some m, rfl, ⟨fun h => (by cases h), fun _ => HL.out⟩, HS2.out.2⟩
        | false =>
          have HN : Hid (∀ x, bg ≤ x → x < m + 1 → timeQ r x = false) := fun x g0 g1 => by
            by_cases hx : x = m
            · subst hx; exact HTT.out
            · exact HP.out x g0 (by omega)
          go_wp2
          go_roundw
          case rel => exact ⟨m + 1, by omega, .inl (by omega), by go_num, HN, HS2.out⟩
          case measure => simp [intOf]; omega
      · have HL : Hid (Least (timeQ r) bg en none) := fun x g0 g1 => HP.out x g0 (by omega)
        go_wp2
        go_ret2
        exact ⟨none, rfl, ⟨fun h => (by cases h), fun _ => HL.out⟩, HS.out.2⟩

set_option maxRecDepth 10000 in
set_option maxHeartbeats 2000000 in
theorem countOfDay_try (r : Nat → Nat → Bool) (bg en : Int) (q : Bool) (w : World) (h0 : 0 ≤ bg) (h1 : en ≤ 1152921504606846976) (hq : ∀ W, Below w.heap.size w W → Calls Tryd.prog 56 #[.agg (rulA r), .int .i64 bg] W fun x w' => x = .returned (.bool q) ∧ Below W.heap.size W w') :
    Calls Tryd.prog 58 #[.agg (rulA r), .int .i64 bg, .int .i64 en] w fun x w' => x = .returned (.int .i64 (if q then (countN (timeQ r) bg (en - bg).toNat : Int) else 0)) ∧ Below w.heap.size w w' := by
  have HQ : Hid (∀ W, Below w.heap.size w W → Calls Tryd.prog 56 #[.agg (rulA r), .int .i64 bg] W fun x w' => x = .returned (.bool q) ∧ Below W.heap.size W w') := hq
  have HT : Hid (∀ (m : Int) (W : World), 0 ≤ m → m ≤ 4611686018427387904 → Calls Tryd.prog 57 #[.agg (rulA r), .int .i64 m] W fun e w' => e = .returned (.bool (timeQ r m)) ∧ Below W.heap.size W w') := fun m W g0 g1 => atTime_any r m W g0 g1
  clear hq
  obtain ⟨RES, HRES⟩ : ∃ x : Int, Hid ((if q then (countN (timeQ r) bg (en - bg).toNat : Int) else 0) = x) := ⟨_, rfl⟩
  rw [HRES.out]
  go_enter Tryd.func58, Tryd.ntmps58
  obtain ⟨W, hW⟩ : ∃ W, w.alloc (.cells (rulA r) 57) = W := ⟨_, rfl⟩
  have HZ : Hid (Rb W w.heap.size r) := by show Rb _ _ _; rw [← hW]; exact Rb.new _ _ 57 rfl
  have hb : Below w.heap.size w W := by rw [← hW]; exact ba (Below.refl _ _) _
  go_wp2_with (first | (rw [hW]; clear hW) | (refine wpr_load HZ.out (.tmp 3) rfl rfl rfl ?_))
  refine (HQ.out _ hb).mono ?_
  rintro x w1 ⟨rfl, hb1⟩
  have B1 := Below.on hb hb1
  have HZ1 : Hid (Rb w1 w.heap.size r) := HZ.out.up hb1
  clear hb hb1 HZ HQ
  cases q with
  | false =>
    go_wp2
    go_ret
    exact ⟨by rw [← HRES.out]; rfl, B1⟩
  | true =>
    have HB : Hid (Below w.heap.size w w1) := B1
    clear B1
    go_wp2
    go_loopw [7, 8] (fun c i wr => ∃ (n k : Nat), (bg + n ≤ en ∨ n = 0) ∧ i = .int .i64 (bg + n) ∧ c = .int .i64 k ∧ k ≤ n ∧ Hid (countN (timeQ r) bg n = k) ∧ Hid (Rb wr w.heap.size r ∧ Below w.heap.size w wr)) (fun _ i _ => (en - intOf i).toNat)
    case atStart => exact ⟨0, 0, .inr rfl, by simp, by simp, Nat.le_refl _, rfl, HZ1.out, HB.out⟩
    case round =>
      obtain ⟨n, k, hn, rfl, rfl, hkn, HP, HS⟩ := hrel
      clear HZ1 HB
      by_cases hlt : bg + (n : Int) < en
      · obtain ⟨t, ht⟩ : ∃ t, timeQ r (bg + n) = t := ⟨_, rfl⟩
        have HTT : Hid (countN (timeQ r) bg (n + 1) = k + if t then 1 else 0) := by show _ = _; rw [countN, HP.out, ht]
        have HT2 : Hid (∀ W : World, Calls Tryd.prog 57 #[.agg (rulA r), .int .i64 (bg + n)] W fun e w' => e = .returned (.bool t) ∧ Below W.heap.size W w') := fun W => by rw [← ht]; exact HT.out _ W (by omega) (by omega)
        clear ht
        go_wp2_with (refine wpr_load HS.out.1 (.tmp 3) rfl rfl rfl ?_)
        refine (HT2.out _).mono ?_
        rintro x w2 ⟨rfl, hb2⟩
        have HS2 : Hid (Rb w2 w.heap.size r ∧ Below w.heap.size w w2) := ⟨HS.out.1.up hb2, Below.on HS.out.2 hb2⟩
        clear hb2
        cases t with
        | true =>
          have HN : Hid (countN (timeQ r) bg (n + 1) = k + 1) := HTT.out
          go_wp2
          go_roundw
          case rel => exact ⟨n + 1, k + 1, .inl (by omega), by congr 1; omega, by go_num, by omega, HN, HS2.out⟩
          case measure => simp [intOf]; omega
        | false =>
          have HN : Hid (countN (timeQ r) bg (n + 1) = k) := HTT.out
          go_wp2
          go_roundw
          case rel => exact ⟨n + 1, k, .inl (by omega), by congr 1; omega, rfl, by omega, HN, HS2.out⟩
          case measure => simp [intOf]; omega
      · have HF : Hid (RES = (k : Int)) := by
          show _ = _
          rw [← HRES.out, if_pos trivial, ← HP.out]
          congr 2
          omega
        go_wp2
        go_ret
        exact ⟨by rw [HF.out]; rfl, HS.out.2⟩
end Go.Proofs.YtgeimliibddhmaaDoor

namespace Go.Proofs.YtgeimliibddhmaaDoor
open Go Go.RowKit

/-- Up to where the next time is looked for. -/
def endN (from' days : Int) : Int := if (from' / 1440 + (if 3000 < days then 3000 else days) + 1) * 1440 ≤ 68374080 then (from' / 1440 + (if 3000 < days then 3000 else days) + 1) * 1440 else 68374080
/-- What the next time is. -/
def NfP (a b c d e : List Int) (from' days : Int) (o : Option Int) : Prop :=
  if cronB a b c d e = true ∧ (0 ≤ from' ∧ from' ≤ 68374079) ∧ 0 ≤ days then Least (firesB a b c d e) from' (endN from' days) o else o = none
theorem NfP.one {a b c d e : List Int} {from' days : Int} {o p : Option Int} (h : NfP a b c d e from' days o) (k : NfP a b c d e from' days p) : o = p := by
  unfold NfP at h k
  split at h
  · rename_i hc
    rw [if_pos hc] at k
    exact Least.one h k
  · rename_i hc
    rw [if_neg hc] at k
    rw [h, k]
theorem nf_no {a b c d e : List Int} {from' days : Int} (h : ¬ (cronB a b c d e = true ∧ (0 ≤ from' ∧ from' ≤ 68374079) ∧ 0 ≤ days)) : NfP a b c d e from' days none := by unfold NfP; rw [if_neg h]
theorem nf_none {a b c d e : List Int} {from' days D : Int} (hc : cronB a b c d e = true) (h0 : 0 ≤ from' ∧ from' ≤ 68374079) (h1 : 0 ≤ days) (hp : ∀ m, from' ≤ m → m < D * 1440 → firesB a b c d e m = false) (hD : from' / 1440 + (if 3000 < days then 3000 else days) < D ∨ 47481 < D) : NfP a b c d e from' days none := by
  unfold NfP
  rw [if_pos ⟨hc, h0, h1⟩]
  intro m hm0 hm1
  refine hp m hm0 ?_
  unfold endN at hm1
  split at hm1 <;> omega
theorem nf_some {a b c d e : List Int} {from' days D r : Int} (hc : cronB a b c d e = true) (h0 : 0 ≤ from' ∧ from' ≤ 68374079) (h1 : 0 ≤ days) (hr : from' ≤ r) (hf : firesB a b c d e r = true ∧ ∀ m, from' ≤ m → m < r → firesB a b c d e m = false) (hD : D ≤ from' / 1440 + (if 3000 < days then 3000 else days)) (hrD : r < (D + 1) * 1440) : NfP a b c d e from' days (some r) := by
  unfold NfP
  rw [if_pos ⟨hc, h0, h1⟩]
  have hr2 := (fires_iff.1 hf.1).1.2
  refine ⟨hr, ?_, hf.1, hf.2⟩
  unfold endN
  split <;> omega

set_option maxRecDepth 10000 in
set_option maxHeartbeats 4000000 in
theorem nextFire_any (va vb vc vd ve : Value) (a b c d e : List Int) (from' days : Int) (w : World) (h1 : Reads w va a) (h2 : Reads w vb b) (h3 : Reads w vc c) (h4 : Reads w vd d) (h5 : Reads w ve e)
    (n1 : a.length ≤ 1048577) (n2 : b.length ≤ 1048577) (n3 : c.length ≤ 1048577) (n4 : d.length ≤ 1048577) (n5 : e.length ≤ 1048577) :
    Calls Tryd.prog 24 #[.agg #[va, vb, vc, vd, ve], .int .i64 from', .int .i64 days] w fun x w' => ∃ o : Option Int, x = .returned (.tuple #[.int .i64 (o.getD 0), .bool o.isSome]) ∧ NfP a b c d e from' days o ∧ Below w.heap.size w w' := by
  obtain ⟨ao, ac, rfl, -⟩ := id h1
  obtain ⟨bo, bc, rfl, -⟩ := id h2
  obtain ⟨co, cc, rfl, -⟩ := id h3
  obtain ⟨d0, dc, rfl, -⟩ := id h4
  obtain ⟨eo, ec, rfl, -⟩ := id h5
  have HC : Hid (∀ W, Below w.heap.size w W → Calls Tryd.prog 21 #[.agg #[.slice ao a.length ac, .slice bo b.length bc, .slice co c.length cc, .slice d0 d.length dc, .slice eo e.length ec]] W fun x w' => x = .returned (.bool (cronB a b c d e)) ∧ Below W.heap.size W w') := fun W hb => cronOk_any _ _ _ _ _ a b c d e W (h1.below hb) (h2.below hb) (h3.below hb) (h4.below hb) (h5.below hb) n1 n2 n3 n4 n5
  have HD : Hid (∀ W m, Below w.heap.size w W → 0 ≤ m → m ≤ 68374079 → Calls Tryd.prog 55 #[.agg #[.slice ao a.length ac, .slice bo b.length bc, .slice co c.length cc, .slice d0 d.length dc, .slice eo e.length ec], .int .i64 m] W fun x w' => x = .returned (.bool (dayF c d e m)) ∧ Below W.heap.size W w') := fun W m hb hm0 hm1 => l10Day_any _ _ _ _ _ c d e m W (h3.below hb) (h4.below hb) (h5.below hb) n3 n4 n5 hm0 hm1
  have HRA : Hid (Reads w (.slice ao a.length ac) a) := h1
  have HRB : Hid (Reads w (.slice bo b.length bc) b) := h2
  clear h1 h2 h3 h4 h5
  have HL1 : Hid (a.length = a.length) := rfl
  obtain ⟨la, HA⟩ : ∃ n, Hid (a.length = n) := ⟨_, rfl⟩
  obtain ⟨lb, HB⟩ : ∃ n, Hid (b.length = n) := ⟨_, rfl⟩
  rw [HA.out, HB.out] at HC HD
  rw [HA.out] at HRA n1 ⊢
  rw [HB.out] at HRB n2 ⊢
  clear HL1
  generalize c.length = lc at *
  generalize d.length = ld at *
  generalize e.length = le at *
  cases hq : cronB a b c d e with
  | false =>
    have HN : Hid (NfP a b c d e from' days none) := nf_no fun h => by rw [hq] at h; cases h.1
    rw [hq] at HC
    clear hq HD HRA HRB HA HB
    go_enter Tryd.func24, Tryd.ntmps24
    go_wp2_with (go_at_call 21; refine (HC.out _ (ba (Below.refl _ _) _)).mono ?_; rintro x w1 ⟨rfl, hb1⟩)
    go_ret2
    exact ⟨none, rfl, HN.out, below_new hb1⟩
  | true =>
    have HQ : Hid (cronB a b c d e = true) := hq
    rw [hq] at HC
    clear hq
    by_cases hf : 0 ≤ from' ∧ from' ≤ 68374079
    case neg =>
      have HN : Hid (NfP a b c d e from' days none) := nf_no fun h => hf h.2.1
      have HI : Hid (∀ w, Calls Tryd.prog 54 #[.int .i64 from', .int .i64 0, .int .i64 68374079] w fun e w' => e = .returned (.bool false) ∧ w' = w) := by intro w; exact in_no hf
      clear HD HRA HRB HA HB hf HQ
      go_enter Tryd.func24, Tryd.ntmps24
      go_wp2_with (first | (go_at_call 21; refine (HC.out _ (ba (Below.refl _ _) _)).mono ?_; rintro x w1 ⟨rfl, hb1⟩) | (go_at_call 54; refine (HI.out _).mono ?_; rintro x w2 ⟨rfl, hw⟩; have hw2 := hw.symm; subst hw2))
      go_ret2
      exact ⟨none, rfl, HN.out, below_new hb1⟩
    have f0 : 0 ≤ from' := hf.1
    have f1 : from' ≤ 68374079 := hf.2
    have HI : Hid (∀ w, Calls Tryd.prog 54 #[.int .i64 from', .int .i64 0, .int .i64 68374079] w fun e w' => e = .returned (.bool true) ∧ w' = w) := by intro w; exact in_yes f0 f1
    by_cases hd : 0 ≤ days
    case neg =>
      have HN : Hid (NfP a b c d e from' days none) := nf_no fun h => hd h.2.2
      clear HD HRA HRB HA HB hf HQ
      go_enter Tryd.func24, Tryd.ntmps24
      go_wp2_with (first | (go_at_call 21; refine (HC.out _ (ba (Below.refl _ _) _)).mono ?_; rintro x w1 ⟨rfl, hb1⟩) | (go_at_call 54; refine (HI.out _).mono ?_; rintro x w2 ⟨rfl, hw⟩; have hw2 := hw.symm; subst hw2))
      go_ret2
      exact ⟨none, rfl, HN.out, below_new hb1⟩
    clear hf
    have HLS : Hid (listB 0 59 a = true ∧ listB 0 23 b = true) := by
      have h := HQ.out
      unfold cronB at h
      simp only [Bool.and_eq_true] at h
      exact ⟨h.1, h.2.1⟩
    have HLA : Hid (listB 0 59 a = true) := HLS.out.1
    have HLB : Hid (listB 0 23 b = true) := HLS.out.2
    have HUA : Hid ((∀ x ∈ a, 0 ≤ x ∧ x ≤ 59) ∧ a.Pairwise (· < ·) ∧ 0 < a.length) := listB_up HLA.out
    have HUB : Hid ((∀ x ∈ b, 0 ≤ x ∧ x ≤ 23) ∧ b.Pairwise (· < ·) ∧ 0 < b.length) := listB_up HLB.out
    clear HLS
    by_cases h3 : 3000 < days
    · have HE : Hid ((if 3000 < days then 3000 else days) = 3000) := if_pos h3
      go_enter Tryd.func24, Tryd.ntmps24
      go_wp2_with (first | (go_at_call 21; refine (HC.out _ (ba (Below.refl _ _) _)).mono ?_; rintro x w1 ⟨rfl, hb1⟩) | (go_at_call 54; refine (HI.out _).mono ?_; rintro x w2 ⟨rfl, hw⟩; have hw2 := hw.symm; subst hw2))
      have B1 := below_new hb1
      have c0 : w1.cell? ⟨w.heap.size, 0, none⟩ = some (.slice ao la ac) := (hb1.cell (by simp)).trans (by simp [go_sem])
      have c1 : w1.cell? ⟨w.heap.size, 1, none⟩ = some (.slice bo lb bc) := (hb1.cell (by simp)).trans (by simp [go_sem])
      have c2 : w1.cell? ⟨w.heap.size, 2, none⟩ = some (.slice co lc cc) := (hb1.cell (by simp)).trans (by simp [go_sem])
      have c3 : w1.cell? ⟨w.heap.size, 3, none⟩ = some (.slice d0 ld dc) := (hb1.cell (by simp)).trans (by simp [go_sem])
      have c4 : w1.cell? ⟨w.heap.size, 4, none⟩ = some (.slice eo le ec) := (hb1.cell (by simp)).trans (by simp [go_sem])
      have hg : w.heap.size < w1.heap.size := World.block_lt_of_cell? _ _ c0
      clear hb1 HC HI
      go_loopw [9] (fun dv wr => ∃ D : Int, from' / 1440 ≤ D ∧ D ≤ from' / 1440 + 3000 + 1 ∧ dv = .int .i64 D ∧ Hid (∀ m, from' ≤ m → m < D * 1440 → firesB a b c d e m = false) ∧ Below w1.heap.size w1 wr) (fun dv _ => (from' / 1440 + 3000 + 1 - intOf dv).toNat)
      case atStart => exact ⟨from' / 1440, Int.le_refl _, by omega, rfl, fun m hm0 hm1 => by omega, Below.refl _ _⟩
      case round =>
        obtain ⟨D, hD0, hD1, rfl, HP, hbel⟩ := hrel
        have k0 := (hbel.cell hg).trans c0
        have k1 := (hbel.cell hg).trans c1
        have k2 := (hbel.cell hg).trans c2
        have k3 := (hbel.cell hg).trans c3
        have k4 := (hbel.cell hg).trans c4
        by_cases hle : D ≤ from' / 1440 + 3000
        · by_cases hmx : D * 1440 ≤ 68374079
          · have H183 := HD.out wr (D * 1440) (Below.on B1 hbel) (by omega) hmx
            cases hday : dayF c d e (D * 1440) with
            | false =>
              rw [hday] at H183
              have HP2 : Hid (∀ m, from' ≤ m → m < (D + 1) * 1440 → firesB a b c d e m = false) := day_idle hday HP.out
              clear hday
              go_wp2_with fail
              refine H183.mono ?_
              rintro x w2 ⟨rfl, hb2⟩
              go_wp2
              go_roundw
              case rel => exact ⟨D + 1, by omega, by omega, by go_num, HP2, Below.on hbel hb2⟩
              case measure => simp [intOf]; omega
            | true =>
              have HDY : Hid (dayF c d e (D * 1440) = true) := hday
              rw [hday] at H183
              clear hday
              go_wp2_with fail
              refine H183.mono ?_
              rintro x w2 ⟨rfl, hb2⟩
              go_wp2
              have B2 := Below.on hbel hb2
              clear k0 k1 k2 k3 k4 H183 hbel hb2
              go_loopw [10] (fun iv wx => ∃ i : Nat, i ≤ lb ∧ iv = .int .i64 i ∧ Hid (Past a b D from' i 0) ∧ Below w1.heap.size w1 wx) (fun iv _ => lb - (intOf iv).toNat)
              case atStart => exact ⟨0, Nat.zero_le _, rfl, past_start _ _ _ _, B2⟩
              case round =>
                clear B2
                obtain ⟨i, hi, rfl, HPI, B3⟩ := hrel
                have k1 := (B3.cell hg).trans c1
                by_cases hil : i < lb
                · obtain ⟨x, hx⟩ : ∃ x, b[i]? = some x := ⟨_, List.getElem?_eq_getElem (by rw [HB.out]; exact hil)⟩
                  have HX : Hid (b[i]? = some x) := hx
                  have hx0 := HUB.out.1 x (List.mem_of_getElem? hx)
                  obtain ⟨gb, ob, rfl, hgb, cb⟩ := int_at (HRB.out.below B1) hx
                  clear hx
                  go_wp2
                  go_loopw [11] (fun kv wz => ∃ k : Nat, k ≤ la ∧ kv = .int .i64 k ∧ Hid (Past a b D from' i k) ∧ Below w1.heap.size w1 wz) (fun kv _ => la - (intOf kv).toNat)
                  case atStart => exact ⟨0, Nat.zero_le _, rfl, HPI, B3⟩
                  case round =>
                    clear B3 k1
                    obtain ⟨k, hk, rfl, HPK, B4⟩ := hrel
                    have k0 := (B4.cell hg).trans c0
                    have k1 := (B4.cell hg).trans c1
                    have cb2 := (B4.cell hgb).trans cb
                    by_cases hkl : k < la
                    · obtain ⟨y, hy⟩ : ∃ y, a[k]? = some y := ⟨_, List.getElem?_eq_getElem (by rw [HA.out]; exact hkl)⟩
                      have HY : Hid (a[k]? = some y) := hy
                      have hy0 := HUA.out.1 y (List.mem_of_getElem? hy)
                      obtain ⟨ga, oa, rfl, hga, ca⟩ := int_at (HRA.out.below B1) hy
                      have ca2 := (B4.cell hga).trans ca
                      clear hy
                      by_cases hge : from' ≤ D * 1440 + x * 60 + y
                      · have HN : Hid (NfP a b c d e from' days (some (D * 1440 + x * 60 + y))) := nf_some (D := D) HQ.out ⟨f0, f1⟩ hd hge (HPK.out.least HLA.out HLB.out (by omega) (by omega) HDY.out HP.out HX.out HY.out) (by rw [HE.out]; exact hle) (by omega)
                        go_wp2
                        go_quiet (fail)
                        go_wp2
                        go_ret2
                        exact ⟨_, rfl, HN.out, Below.on B1 (bdrewN B4 _)⟩
                      · have HN : Hid (Past a b D from' i (k + 1)) := HPK.out.next HX.out HY.out (by omega)
                        go_wp2
                        go_quiet (fail)
                        go_wp2
                        go_roundw
                        case rel => exact ⟨k + 1, by omega, by go_num, HN, bdrewN B4 _⟩
                        case measure => simp [intOf]; omega
                    · have HN : Hid (Past a b D from' (i + 1) 0) := Past.row (by rw [HA.out, show la = k by omega]; exact HPK.out)
                      go_wp2
                      go_roundw
                      case rel => exact ⟨i + 1, by omega, by go_num, HN, B4⟩
                      case measure => simp [intOf]; omega
                · have HN : Hid (∀ m, from' ≤ m → m < (D + 1) * 1440 → firesB a b c d e m = false) := Past.day (by rw [HB.out, show lb = i by omega]; exact HPI.out) HP.out
                  go_wp2
                  go_roundw
                  case rel => exact ⟨D + 1, by omega, by omega, by go_num, HN, B3⟩
                  case measure => simp [intOf]; omega
          · have HN : Hid (NfP a b c d e from' days none) := nf_none (D := D) HQ.out ⟨f0, f1⟩ hd HP.out (.inr (by omega))
            go_wp2
            go_ret2
            exact ⟨none, rfl, HN.out, Below.on B1 hbel⟩
        · have HN : Hid (NfP a b c d e from' days none) := nf_none (D := D) HQ.out ⟨f0, f1⟩ hd HP.out (.inl (by rw [HE.out]; omega))
          go_wp2
          go_ret2
          exact ⟨none, rfl, HN.out, Below.on B1 hbel⟩
    · have HE : Hid ((if 3000 < days then 3000 else days) = days) := if_neg h3
      go_enter Tryd.func24, Tryd.ntmps24
      go_wp2_with (first | (go_at_call 21; refine (HC.out _ (ba (Below.refl _ _) _)).mono ?_; rintro x w1 ⟨rfl, hb1⟩) | (go_at_call 54; refine (HI.out _).mono ?_; rintro x w2 ⟨rfl, hw⟩; have hw2 := hw.symm; subst hw2))
      have B1 := below_new hb1
      have c0 : w1.cell? ⟨w.heap.size, 0, none⟩ = some (.slice ao la ac) := (hb1.cell (by simp)).trans (by simp [go_sem])
      have c1 : w1.cell? ⟨w.heap.size, 1, none⟩ = some (.slice bo lb bc) := (hb1.cell (by simp)).trans (by simp [go_sem])
      have c2 : w1.cell? ⟨w.heap.size, 2, none⟩ = some (.slice co lc cc) := (hb1.cell (by simp)).trans (by simp [go_sem])
      have c3 : w1.cell? ⟨w.heap.size, 3, none⟩ = some (.slice d0 ld dc) := (hb1.cell (by simp)).trans (by simp [go_sem])
      have c4 : w1.cell? ⟨w.heap.size, 4, none⟩ = some (.slice eo le ec) := (hb1.cell (by simp)).trans (by simp [go_sem])
      have hg : w.heap.size < w1.heap.size := World.block_lt_of_cell? _ _ c0
      clear hb1 HC HI
      go_loopw [9] (fun dv wr => ∃ D : Int, from' / 1440 ≤ D ∧ D ≤ from' / 1440 + days + 1 ∧ dv = .int .i64 D ∧ Hid (∀ m, from' ≤ m → m < D * 1440 → firesB a b c d e m = false) ∧ Below w1.heap.size w1 wr) (fun dv _ => (from' / 1440 + days + 1 - intOf dv).toNat)
      case atStart => exact ⟨from' / 1440, Int.le_refl _, by omega, rfl, fun m hm0 hm1 => by omega, Below.refl _ _⟩
      case round =>
        obtain ⟨D, hD0, hD1, rfl, HP, hbel⟩ := hrel
        have k0 := (hbel.cell hg).trans c0
        have k1 := (hbel.cell hg).trans c1
        have k2 := (hbel.cell hg).trans c2
        have k3 := (hbel.cell hg).trans c3
        have k4 := (hbel.cell hg).trans c4
        by_cases hle : D ≤ from' / 1440 + days
        · by_cases hmx : D * 1440 ≤ 68374079
          · have H183 := HD.out wr (D * 1440) (Below.on B1 hbel) (by omega) hmx
            cases hday : dayF c d e (D * 1440) with
            | false =>
              rw [hday] at H183
              have HP2 : Hid (∀ m, from' ≤ m → m < (D + 1) * 1440 → firesB a b c d e m = false) := day_idle hday HP.out
              clear hday
              go_wp2_with fail
              refine H183.mono ?_
              rintro x w2 ⟨rfl, hb2⟩
              go_wp2
              go_roundw
              case rel => exact ⟨D + 1, by omega, by omega, by go_num, HP2, Below.on hbel hb2⟩
              case measure => simp [intOf]; omega
            | true =>
              have HDY : Hid (dayF c d e (D * 1440) = true) := hday
              rw [hday] at H183
              clear hday
              go_wp2_with fail
              refine H183.mono ?_
              rintro x w2 ⟨rfl, hb2⟩
              go_wp2
              have B2 := Below.on hbel hb2
              clear k0 k1 k2 k3 k4 H183 hbel hb2
              go_loopw [10] (fun iv wx => ∃ i : Nat, i ≤ lb ∧ iv = .int .i64 i ∧ Hid (Past a b D from' i 0) ∧ Below w1.heap.size w1 wx) (fun iv _ => lb - (intOf iv).toNat)
              case atStart => exact ⟨0, Nat.zero_le _, rfl, past_start _ _ _ _, B2⟩
              case round =>
                clear B2
                obtain ⟨i, hi, rfl, HPI, B3⟩ := hrel
                have k1 := (B3.cell hg).trans c1
                by_cases hil : i < lb
                · obtain ⟨x, hx⟩ : ∃ x, b[i]? = some x := ⟨_, List.getElem?_eq_getElem (by rw [HB.out]; exact hil)⟩
                  have HX : Hid (b[i]? = some x) := hx
                  have hx0 := HUB.out.1 x (List.mem_of_getElem? hx)
                  obtain ⟨gb, ob, rfl, hgb, cb⟩ := int_at (HRB.out.below B1) hx
                  clear hx
                  go_wp2
                  go_loopw [11] (fun kv wz => ∃ k : Nat, k ≤ la ∧ kv = .int .i64 k ∧ Hid (Past a b D from' i k) ∧ Below w1.heap.size w1 wz) (fun kv _ => la - (intOf kv).toNat)
                  case atStart => exact ⟨0, Nat.zero_le _, rfl, HPI, B3⟩
                  case round =>
                    clear B3 k1
                    obtain ⟨k, hk, rfl, HPK, B4⟩ := hrel
                    have k0 := (B4.cell hg).trans c0
                    have k1 := (B4.cell hg).trans c1
                    have cb2 := (B4.cell hgb).trans cb
                    by_cases hkl : k < la
                    · obtain ⟨y, hy⟩ : ∃ y, a[k]? = some y := ⟨_, List.getElem?_eq_getElem (by rw [HA.out]; exact hkl)⟩
                      have HY : Hid (a[k]? = some y) := hy
                      have hy0 := HUA.out.1 y (List.mem_of_getElem? hy)
                      obtain ⟨ga, oa, rfl, hga, ca⟩ := int_at (HRA.out.below B1) hy
                      have ca2 := (B4.cell hga).trans ca
                      clear hy
                      by_cases hge : from' ≤ D * 1440 + x * 60 + y
                      · have HN : Hid (NfP a b c d e from' days (some (D * 1440 + x * 60 + y))) := nf_some (D := D) HQ.out ⟨f0, f1⟩ hd hge (HPK.out.least HLA.out HLB.out (by omega) (by omega) HDY.out HP.out HX.out HY.out) (by rw [HE.out]; exact hle) (by omega)
                        go_wp2
                        go_quiet (fail)
                        go_wp2
                        go_ret2
                        exact ⟨_, rfl, HN.out, Below.on B1 (bdrewN B4 _)⟩
                      · have HN : Hid (Past a b D from' i (k + 1)) := HPK.out.next HX.out HY.out (by omega)
                        go_wp2
                        go_quiet (fail)
                        go_wp2
                        go_roundw
                        case rel => exact ⟨k + 1, by omega, by go_num, HN, bdrewN B4 _⟩
                        case measure => simp [intOf]; omega
                    · have HN : Hid (Past a b D from' (i + 1) 0) := Past.row (by rw [HA.out, show la = k by omega]; exact HPK.out)
                      go_wp2
                      go_roundw
                      case rel => exact ⟨i + 1, by omega, by go_num, HN, B4⟩
                      case measure => simp [intOf]; omega
                · have HN : Hid (∀ m, from' ≤ m → m < (D + 1) * 1440 → firesB a b c d e m = false) := Past.day (by rw [HB.out, show lb = i by omega]; exact HPI.out) HP.out
                  go_wp2
                  go_roundw
                  case rel => exact ⟨D + 1, by omega, by omega, by go_num, HN, B3⟩
                  case measure => simp [intOf]; omega
          · have HN : Hid (NfP a b c d e from' days none) := nf_none (D := D) HQ.out ⟨f0, f1⟩ hd HP.out (.inr (by omega))
            go_wp2
            go_ret2
            exact ⟨none, rfl, HN.out, Below.on B1 hbel⟩
        · have HN : Hid (NfP a b c d e from' days none) := nf_none (D := D) HQ.out ⟨f0, f1⟩ hd HP.out (.inl (by rw [HE.out]; omega))
          go_wp2
          go_ret2
          exact ⟨none, rfl, HN.out, Below.on B1 hbel⟩
end Go.Proofs.YtgeimliibddhmaaDoor

namespace Go.Proofs.YtgeimliibddhmaaDoor
open Go Go.RowKit
set_option linter.unusedVariables false

theorem timeQ_is {a b c d e : List Int} {m : Int} (h0 : 0 ≤ m) : timeQ (mem5 a b c d e) m = (decide (m % 1440 / 60 ∈ b) && decide (m % 60 ∈ a)) := by
  show (memP b (m % 1440 / 60).toNat && memP a (m % 60).toNat) = _
  unfold memP
  rw [Int.toNat_of_nonneg (by omega), Int.toNat_of_nonneg (by omega)]
theorem fires_time {a b c d e : List Int} {m : Int} (h0 : 0 ≤ m) (h1 : m ≤ 68374079) : firesB a b c d e m = (timeQ (mem5 a b c d e) m && dayF c d e m) := by
  rw [timeQ_is h0]
  unfold firesB
  rw [decide_eq_true (show 0 ≤ m ∧ m ≤ 68374079 from ⟨h0, h1⟩)]
  cases decide (m % 60 ∈ a) <;> cases decide (m % 1440 / 60 ∈ b) <;> simp
theorem fires_out {a b c d e : List Int} {m : Int} (h : ¬ (0 ≤ m ∧ m ≤ 68374079)) : firesB a b c d e m = false := by
  unfold firesB
  rw [decide_eq_false h]
  rfl
theorem dayF_same {c d e : List Int} {m n : Int} (h0 : 0 ≤ m) (h1 : m ≤ 68374079) (h2 : 0 ≤ n) (h3 : n ≤ 68374079) (h : m / 1440 = n / 1440) : dayF c d e m = dayF c d e n := by
  rw [← dayF_day h0 h1, ← dayF_day h2 h3, h]
theorem Least.congr {f g : Int → Bool} {x y : Int} : ∀ {o : Option Int}, (∀ m, x ≤ m → m < y → f m = g m) → Least f x y o → Least g x y o
  | none, h, k => fun m h0 h1 => (h m h0 h1).symm.trans (k m h0 h1)
  | some r, h, k => ⟨k.1, k.2.1, (h r k.1 k.2.1).symm.trans k.2.2.1, fun m h0 h1 => (h m h0 (by have := k.2.1; omega)).symm.trans (k.2.2.2 m h0 h1)⟩
theorem countN_congr {f g : Int → Bool} {x : Int} : ∀ n : Nat, (∀ m, x ≤ m → m < x + n → f m = g m) → countN f x n = countN g x n
  | 0, _ => rfl
  | n + 1, h => by
    unfold countN
    rw [countN_congr n (fun m h0 h1 => h m h0 (by omega)), h (x + n) (by omega) (by omega)]
theorem countN_none {f : Int → Bool} {x : Int} (n : Nat) (h : ∀ m, x ≤ m → m < x + n → f m = false) : countN f x n = 0 := by
  have := countN_idle (f := f) (a := x) (i := 0) n (fun m h0 h1 => h m (by simpa using h0) (by simpa using h1))
  rw [Nat.zero_add] at this
  rw [this]
  rfl
/-- A day of a minute, whatever the minute. -/
noncomputable def dayW (c d e : List Int) (m : Int) : Bool := decide (0 ≤ m ∧ m ≤ 68374079) && dayF c d e m
theorem onDay_all {a b c d e : List Int} {m : Int} (w : World) (hB : cronB a b c d e = true) (hg : RchIs w) : Calls Tryd.prog 56 #[.agg (rulA (mem5 a b c d e)), .int .i64 m] w fun x w' => x = .returned (.bool (dayW c d e m)) ∧ Below w.heap.size w w' := by
  unfold dayW
  by_cases h : 0 ≤ m ∧ m ≤ 68374079
  · rw [decide_eq_true h, Bool.true_and]
    exact onDay_any w hB hg h.1 h.2
  · rw [decide_eq_false h, Bool.false_and]
    exact onDay_no _ m w h
theorem fires_day {a b c d e : List Int} {bg en m : Int} (h0 : 0 ≤ bg) (he : en ≤ (bg / 1440 + 1) * 1440) (h2 : bg ≤ m) (h3 : m < en) : firesB a b c d e m = (dayW c d e bg && timeQ (mem5 a b c d e) m) := by
  unfold dayW
  by_cases h : 0 ≤ bg ∧ bg ≤ 68374079
  · have h4 : m ≤ 68374079 := by omega
    rw [decide_eq_true h, Bool.true_and, fires_time (by omega) h4, dayF_same (m := m) (n := bg) (by omega) h4 h.1 h.2 (by omega), Bool.and_comm]
  · rw [decide_eq_false h, fires_out (by omega)]
    rfl
theorem firstDay_any {a b c d e : List Int} {bg en : Int} (w : World) (hB : cronB a b c d e = true) (hg : RchIs w) (h0 : 0 ≤ bg) (he : en ≤ (bg / 1440 + 1) * 1440) (h1 : bg ≤ 1152921504606800000) :
    Calls Tryd.prog 53 #[.agg (rulA (mem5 a b c d e)), .int .i64 bg, .int .i64 en] w fun x w' => ∃ o : Option Int, x = .returned (.tuple #[.int .i64 (o.getD 0), .bool o.isSome]) ∧ Least (firesB a b c d e) bg en o ∧ Below w.heap.size w w' := by
  refine (firstOfDay_try (mem5 a b c d e) bg en (dayW c d e bg) w h0 (by omega) (fun W hb => onDay_all W hB (hg.up hb))).mono ?_
  rintro x w' ⟨o, rfl, hF, hb⟩
  refine ⟨o, rfl, ?_, hb⟩
  cases hq : dayW c d e bg with
  | false =>
    have := hF.1 hq
    subst this
    intro m g0 g1
    rw [fires_day h0 he g0 g1, hq]
    rfl
  | true => exact Least.congr (fun m g0 g1 => by rw [fires_day h0 he g0 g1, hq]; rfl) (hF.2 hq)
theorem countDay_any {a b c d e : List Int} {bg en : Int} (w : World) (hB : cronB a b c d e = true) (hg : RchIs w) (h0 : 0 ≤ bg) (hbe : bg ≤ en) (he : en ≤ (bg / 1440 + 1) * 1440) (h1 : bg ≤ 1152921504606800000) :
    Calls Tryd.prog 58 #[.agg (rulA (mem5 a b c d e)), .int .i64 bg, .int .i64 en] w fun x w' => x = .returned (.int .i64 (countN (firesB a b c d e) bg (en - bg).toNat : Int)) ∧ Below w.heap.size w w' := by
  refine (countOfDay_try (mem5 a b c d e) bg en (dayW c d e bg) w h0 (by omega) (fun W hb => onDay_all W hB (hg.up hb))).mono ?_
  rintro x w' ⟨rfl, hb⟩
  refine ⟨?_, hb⟩
  cases hq : dayW c d e bg with
  | false =>
    rw [countN_none (f := firesB a b c d e) _ (fun m g0 g1 => by rw [fires_day h0 he g0 (by omega), hq]; rfl)]
    rfl
  | true =>
    rw [countN_congr (f := firesB a b c d e) (g := timeQ (mem5 a b c d e)) _ (fun m g0 g1 => by rw [fires_day h0 he g0 (by omega), hq]; rfl)]
    rfl
end Go.Proofs.YtgeimliibddhmaaDoor
