/- Mgp -/
import Derived.Test.YtpjpheicldegkaaGreatDoorMgo
namespace Go.Proofs.YtpjpheicldegkaaGreatDoor
open Go Go.RowKit

set_option maxHeartbeats 1000000 in
theorem cNone_any (c : Value) (cs : List Int) (da : ByteArray) (la : Bool) (w : World) (hc : Reads w c cs) : Calls Tryz.prog 157 #[.agg #[c, .string da, .bool la]] w fun e w' => e = .returned (.bool (noneC cs da la)) ∧ Below w.heap.size w w' := by
  obtain ⟨ao, cap, rfl, _⟩ := id hc
  clear hc
  unfold noneC
  generalize cs.length = n
  by_cases h : n = 0
  · subst h
    by_cases h2 : da.toList = []
    · cases la
      all_goals
        rw [decide_eq_true h2]
        go_enter Tryz.func157, Tryz.ntmps157
        go_wp2
        go_ret
        exact ⟨rfl, ba (Below.refl _ _) _⟩
    · rw [decide_eq_false h2]
      have h3 : (da.toList == []) = false := by cases hl : da.toList with | nil => exact absurd hl h2 | cons a b => rfl
      go_enter Tryz.func157, Tryz.ntmps157
      go_wp2
      go_ret
      exact ⟨rfl, ba (Below.refl _ _) _⟩
  · rw [decide_eq_false h]
    have hb : ((n : Int) == 0) = false := by simp; omega
    go_enter Tryz.func157, Tryz.ntmps157
    go_wp2
    go_ret
    exact ⟨rfl, ba (Below.refl _ _) _⟩
set_option maxHeartbeats 1000000 in
theorem cRight_any (c : Value) (cs : List Int) (da : ByteArray) (la : Bool) (w : World) (hc : Reads w c cs) (hn : cs.length ≤ 1048577) : Calls Tryz.prog 158 #[.agg #[c, .string da, .bool la]] w fun e w' => e = .returned (.bool (chunkM cs da)) ∧ Below w.heap.size w w' := by
  obtain ⟨ao, cap, rfl, _⟩ := id hc
  have HR : Hid (Reads w (.slice ao cs.length cap) cs) := hc
  have HN : Hid (cs.length ≤ 1048577) := hn
  clear hc hn
  unfold chunkM
  obtain ⟨n, HM⟩ : ∃ n, Hid (cs.length = n) := ⟨_, rfl⟩
  rw [HM.out] at HR ⊢
  obtain ⟨q, HQ⟩ : ∃ q, Hid ((okC cs && decide (da.size ≤ 60)) = q) := ⟨_, rfl⟩
  rw [HQ.out]
  go_enter Tryz.func158, Tryz.ntmps158
  go_wp2_with fail
  refine (confOk_any (HR.out.alloc _) HN.out).mono ?_
  rintro e w2 ⟨rfl, hb2⟩
  have c1 : w2.cell? ⟨w.heap.size, 1, none⟩ = some (.string da) := (hb2.cell (by simp)).trans (by simp [go_sem])
  have B2 := qma hb2
  clear hb2
  cases hk : okC cs with
  | false =>
    obtain rfl : q = false := by rw [← HQ.out, hk]; rfl
    go_wp2
    go_ret
    exact ⟨rfl, B2⟩
  | true =>
  have e : q = decide ((da.size : Int) ≤ 60) := by rw [← HQ.out, hk, Bool.true_and]; exact decide_eq_decide.2 (by omega)
  subst e
  go_wp2
  go_ret
  exact ⟨rfl, B2⟩
set_option maxRecDepth 10000 in
set_option maxHeartbeats 4000000 in
theorem onS_any (kd fr up tm ix lt cm : Int) (ok : Bool) (da : ByteArray) (la : Bool) (e c : Value) (es : List En) (cs : List Int) (w : World) (he : Reads w e es) (hc : Reads w c cs) (hn : es.length ≤ 1048577) (hm : cs.length ≤ 1048577) (hz : qsc es) : Calls Tryz.prog 29 #[.agg #[.int .i64 3, .func (.func 28) #[] #[]], .agg #[.int .i64 kd, .int .i64 fr, .int .i64 up, .int .i64 tm, .int .i64 ix, .int .i64 lt, .int .i64 cm, .bool ok, e, c, .string da, .bool la]] w fun e w' => e = .returned (.bool (if kd = 3 then sendM tm lt es else noneS es)) ∧ Below w.heap.size w w' := by
  obtain ⟨ao, cap, rfl, _⟩ := id he
  obtain ⟨bo, cbp, rfl, _⟩ := id hc
  have HE : Hid (Reads w (.slice ao es.length cap) es) := he
  have HC : Hid (Reads w (.slice bo cs.length cbp) cs) := hc
  have HN : Hid (es.length ≤ 1048577) := hn
  have HM : Hid (cs.length ≤ 1048577) := hm
  have HZ : Hid (qsc es) := hz
  clear he hc hn hm hz
  obtain ⟨q, HQ⟩ : ∃ q, Hid ((if kd = 3 then sendM tm lt es else noneS es) = q) := ⟨_, rfl⟩
  rw [HQ.out]
  go_enter Tryz.func29, Tryz.ntmps29
  go_wp2_with fail
  refine (sending_any kd fr up tm ix lt cm ok da la ao bo _ _ _ _ _).mono ?_
  rintro e w2 ⟨rfl, hb2⟩
  have K1 := (Kc12.new _ _ _ _ _ _ _ _ _ _ _ _ _ _).up hb2
  rw [show (w.alloc (.cells #[.int .i64 3, .func (.func 28) #[] #[]] 65)).heap.size = w.heap.size + 1 by simp] at K1
  have p0 : w2.cell? ⟨w.heap.size, 0, none⟩ = some (.int .i64 3) := (hb2.cell (by simp; omega)).trans (by simp [go_sem])
  have k0 := K1.c0
  have B2 : Below w.heap.size w w2 := (ba (ba (Below.refl _ _) _) _).trans (hb2.mono (by simp; omega))
  clear hb2
  have hlt : w.heap.size + 1 < w2.heap.size := K1.lt
  have hlt0 : w.heap.size < w2.heap.size := by omega
  clear K1
  by_cases hk : kd = 3
  · subst hk
    obtain rfl : sendM tm lt es = q := by rw [← HQ.out, if_pos rfl]
    go_wp2_with fail
    refine (sRight_any _ _ _ es _ ((HE.out.below B2).alloc _) HN.out HZ.out).mono ?_
    rintro e w3 ⟨rfl, hb3⟩
    have B3 := (ba B2 _).trans (hb3.mono (by have := B2.size; simp; omega))
    clear hb3
    go_wp2
    go_ret
    exact ⟨rfl, B3⟩
  · obtain rfl : noneS es = q := by rw [← HQ.out, if_neg hk]
    have hk2 : (kd != 3) = true := by simp [hk]
    go_wp2_with fail
    refine (sNone_any _ _ _ es _ ((HE.out.below B2).alloc _)).mono ?_
    rintro e w3 ⟨rfl, hb3⟩
    have B3 := (ba B2 _).trans (hb3.mono (by have := B2.size; simp; omega))
    clear hb3
    go_wp2
    go_ret
    exact ⟨rfl, B3⟩
set_option maxRecDepth 10000 in
set_option maxHeartbeats 4000000 in
theorem onC_any (kd fr up tm ix lt cm : Int) (ok : Bool) (da : ByteArray) (la : Bool) (e c : Value) (es : List En) (cs : List Int) (w : World) (he : Reads w e es) (hc : Reads w c cs) (hn : es.length ≤ 1048577) (hm : cs.length ≤ 1048577) (hz : qsc es) : Calls Tryz.prog 31 #[.agg #[.int .i64 5, .func (.func 30) #[] #[]], .agg #[.int .i64 kd, .int .i64 fr, .int .i64 up, .int .i64 tm, .int .i64 ix, .int .i64 lt, .int .i64 cm, .bool ok, e, c, .string da, .bool la]] w fun e w' => e = .returned (.bool (if kd = 5 then chunkM cs da else noneC cs da la)) ∧ Below w.heap.size w w' := by
  obtain ⟨ao, cap, rfl, _⟩ := id he
  obtain ⟨bo, cbp, rfl, _⟩ := id hc
  have HE : Hid (Reads w (.slice ao es.length cap) es) := he
  have HC : Hid (Reads w (.slice bo cs.length cbp) cs) := hc
  have HN : Hid (es.length ≤ 1048577) := hn
  have HM : Hid (cs.length ≤ 1048577) := hm
  have HZ : Hid (qsc es) := hz
  clear he hc hn hm hz
  obtain ⟨q, HQ⟩ : ∃ q, Hid ((if kd = 5 then chunkM cs da else noneC cs da la) = q) := ⟨_, rfl⟩
  rw [HQ.out]
  go_enter Tryz.func31, Tryz.ntmps31
  go_wp2_with fail
  refine (chunk_any kd fr up tm ix lt cm ok da la ao bo _ _ _ _ _).mono ?_
  rintro e w2 ⟨rfl, hb2⟩
  have K1 := (Kc12.new _ _ _ _ _ _ _ _ _ _ _ _ _ _).up hb2
  rw [show (w.alloc (.cells #[.int .i64 5, .func (.func 30) #[] #[]] 73)).heap.size = w.heap.size + 1 by simp] at K1
  have p0 : w2.cell? ⟨w.heap.size, 0, none⟩ = some (.int .i64 5) := (hb2.cell (by simp; omega)).trans (by simp [go_sem])
  have k0 := K1.c0
  have B2 : Below w.heap.size w w2 := (ba (ba (Below.refl _ _) _) _).trans (hb2.mono (by simp; omega))
  clear hb2
  have hlt : w.heap.size + 1 < w2.heap.size := K1.lt
  have hlt0 : w.heap.size < w2.heap.size := by omega
  clear K1
  by_cases hk : kd = 5
  · subst hk
    obtain rfl : chunkM cs da = q := by rw [← HQ.out, if_pos rfl]
    go_wp2_with fail
    refine (cRight_any _ cs _ _ _ ((HC.out.below B2).alloc _) HM.out).mono ?_
    rintro e w3 ⟨rfl, hb3⟩
    have B3 := (ba B2 _).trans (hb3.mono (by have := B2.size; simp; omega))
    clear hb3
    go_wp2
    go_ret
    exact ⟨rfl, B3⟩
  · obtain rfl : noneC cs da la = q := by rw [← HQ.out, if_neg hk]
    have hk2 : (kd != 5) = true := by simp [hk]
    go_wp2_with fail
    refine (cNone_any _ cs _ _ _ ((HC.out.below B2).alloc _)).mono ?_
    rintro e w3 ⟨rfl, hb3⟩
    have B3 := (ba B2 _).trans (hb3.mono (by have := B2.size; simp; omega))
    clear hb3
    go_wp2
    go_ret
    exact ⟨rfl, B3⟩
set_option maxRecDepth 10000 in
set_option maxHeartbeats 4000000 in
theorem implMessageOk_any (kd fr up tm ix lt cm : Int) (ok : Bool) (da : ByteArray) (la : Bool) (e c : Value) (es : List En) (cs : List Int) (w : World) (he : Reads w e es) (hc : Reads w c cs) (hn : es.length ≤ 1048577) (hm : cs.length ≤ 1048577) (hz : qsc es) : Calls Tryz.prog 9 #[.agg #[.int .i64 kd, .int .i64 fr, .int .i64 up, .int .i64 tm, .int .i64 ix, .int .i64 lt, .int .i64 cm, .bool ok, e, c, .string da, .bool la]] w fun e w' => e = .returned (.bool (okM kd fr up tm ix lt cm da la es cs)) ∧ Below w.heap.size w w' := by
  have HE : Hid (Reads w e es) := he
  have HC : Hid (Reads w c cs) := hc
  have HN : Hid (es.length ≤ 1048577) := hn
  have HM : Hid (cs.length ≤ 1048577) := hm
  have HZ : Hid (qsc es) := hz
  obtain ⟨ao, cap, rfl, _⟩ := id he
  obtain ⟨bo, cbp, rfl, _⟩ := id hc
  clear he hc hn hm hz
  unfold okM
  obtain ⟨q0, HQ0⟩ : ∃ q, Hid (headM kd fr up tm ix lt cm = q) := ⟨_, rfl⟩
  obtain ⟨q1, HQ1⟩ : ∃ q, Hid ((if kd = 3 then sendM tm lt es else noneS es) = q) := ⟨_, rfl⟩
  obtain ⟨q2, HQ2⟩ : ∃ q, Hid ((if kd = 5 then chunkM cs da else noneC cs da la) = q) := ⟨_, rfl⟩
  rw [HQ0.out, HQ1.out, HQ2.out]
  go_enter Tryz.func9, Tryz.ntmps9
  go_wp2_with fail
  refine (isHead_any kd fr up tm ix lt cm ok da la _ _ _).mono ?_
  rintro e w2 ⟨rfl, hb2⟩
  rw [HQ0.out]
  have K2 := (Kc12.new _ _ _ _ _ _ _ _ _ _ _ _ _ _).up hb2
  have B2 := qma hb2
  clear hb2
  cases q0 with
  | false =>
    go_wp2
    go_ret
    exact ⟨rfl, B2⟩
  | true =>
  have c0 := K2.c0
  have c1 := K2.c1
  have c2 := K2.c2
  have c3 := K2.c3
  have c4 := K2.c4
  have c5 := K2.c5
  have c6 := K2.c6
  have c7 := K2.c7
  have c8 := K2.c8
  have c9 := K2.c9
  have c10 := K2.c10
  have c11 := K2.c11
  go_wp2_with fail
  refine (onS_any kd fr up tm ix lt cm ok da la _ _ es cs _ (HE.out.below B2) (HC.out.below B2) HN.out HM.out HZ.out).mono ?_
  rintro e w3 ⟨rfl, hb3⟩
  rw [HQ1.out]
  have K3 := K2.up hb3
  have B3 := B2.trans (hb3.mono B2.size)
  clear hb3 c0 c1 c2 c3 c4 c5 c6 c7 c8 c9 c10 c11 K2
  cases q1 with
  | false =>
    go_wp2
    go_ret
    exact ⟨rfl, B3⟩
  | true =>
  have c0 := K3.c0
  have c1 := K3.c1
  have c2 := K3.c2
  have c3 := K3.c3
  have c4 := K3.c4
  have c5 := K3.c5
  have c6 := K3.c6
  have c7 := K3.c7
  have c8 := K3.c8
  have c9 := K3.c9
  have c10 := K3.c10
  have c11 := K3.c11
  go_wp2_with fail
  refine (onC_any kd fr up tm ix lt cm ok da la _ _ es cs _ (HE.out.below B3) (HC.out.below B3) HN.out HM.out HZ.out).mono ?_
  rintro e w4 ⟨rfl, hb4⟩
  rw [HQ2.out]
  have B4 := B3.trans (hb4.mono B3.size)
  clear hb4 c0 c1 c2 c3 c4 c5 c6 c7 c8 c9 c10 c11 K3
  cases q2 with
  | false =>
    go_wp2
    go_ret
    exact ⟨rfl, B4⟩
  | true =>
    go_wp2
    go_ret
    exact ⟨rfl, B4⟩
end Go.Proofs.YtpjpheicldegkaaGreatDoor
