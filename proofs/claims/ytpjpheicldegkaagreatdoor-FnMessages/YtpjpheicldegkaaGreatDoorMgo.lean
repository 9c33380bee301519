/- Mgo -/
import Derived.Test.YtpjpheicldegkaaGreatDoorGM12
import Derived.Test.YtpjpheicldegkaaGreatDoorGM14
import Derived.Test.YtpjpheicldegkaaGreatDoorCo
namespace Go.Proofs.YtpjpheicldegkaaGreatDoor
open Go Go.RowKit

def wiB (x lo hi : Int) : Bool := decide (lo ≤ x) && decide (x ≤ hi)
def headM (kd fr up tm ix lt cm : Int) : Bool := wiB kd 1 6 && (wiB fr 1 4 && (wiB up 1 4 && (!decide (fr = up) && (wiB tm 0 100000 && (wiB lt 0 100000 && (wiB ix 0 1000000 && wiB cm 0 1000000))))))
def noneS (es : List En) : Bool := decide (es.length = 0)
def sendM (tm lt : Int) (es : List En) : Bool := decide (es.length = 0) || (decide (es.length ≤ 4) && (okL 0 lt es && decide (lastT lt es ≤ tm)))
def noneC (cs : List Int) (da : ByteArray) (la : Bool) : Bool := decide (cs.length = 0) && (decide (da.toList = []) && !la)
def chunkM (cs : List Int) (da : ByteArray) : Bool := okC cs && decide (da.size ≤ 60)
def okM (kd fr up tm ix lt cm : Int) (da : ByteArray) (la : Bool) (es : List En) (cs : List Int) : Bool := headM kd fr up tm ix lt cm && ((if kd = 3 then sendM tm lt es else noneS es) && (if kd = 5 then chunkM cs da else noneC cs da la))
theorem ret_snd {fn : Func} {p : Tmp} {w : World} {g : Nat} {x0 x1 x2 x3 : Value} {tmps : Array Value} (h : fn.results = #[.cell p 69]) (hp : tmps.getD p undef = .pointer (some ⟨g, 0, none⟩)) (h0 : w.cell? ⟨g, 0, none⟩ = some x0) (h1 : w.cell? ⟨g, 1, none⟩ = some x1) (h2 : w.cell? ⟨g, 2, none⟩ = some x2) (h3 : w.cell? ⟨g, 3, none⟩ = some x3) :
    (results fn tmps).run Tryz.prog w = .ok (.agg #[x0, x1, x2, x3]) w := by
  have hp' : tmps[p]?.getD undef = .pointer (some ⟨g, 0, none⟩) := by simpa using hp
  simp [results, h, hp', h0, h1, h2, h3, asAddr, go_sem]
theorem ret_chk {fn : Func} {p : Tmp} {w : World} {g : Nat} {x0 x1 x2 : Value} {tmps : Array Value} (h : fn.results = #[.cell p 75]) (hp : tmps.getD p undef = .pointer (some ⟨g, 0, none⟩)) (h0 : w.cell? ⟨g, 0, none⟩ = some x0) (h1 : w.cell? ⟨g, 1, none⟩ = some x1) (h2 : w.cell? ⟨g, 2, none⟩ = some x2) :
    (results fn tmps).run Tryz.prog w = .ok (.agg #[x0, x1, x2]) w := by
  have hp' : tmps[p]?.getD undef = .pointer (some ⟨g, 0, none⟩) := by simpa using hp
  simp [results, h, hp', h0, h1, h2, asAddr, go_sem]

theorem qac (n : Int) (w : World) : Calls Tryz.prog 60 #[.int .i64 n] w fun e w' => e = .returned (.bool (wiB n 1 4)) ∧ w' = w := by
  by_cases h1 : 1 ≤ n
  · by_cases h2 : n ≤ 4
    · rw [show wiB n 1 4 = true by simp [wiB, h1, h2]]
      go_enter Tryz.func60, Tryz.ntmps60
      go_wp2
      go_ret
      exact ⟨rfl, rfl⟩
    · rw [show wiB n 1 4 = false by simp [wiB, h1, h2]]
      go_enter Tryz.func60, Tryz.ntmps60
      go_wp2
      go_ret
      exact ⟨rfl, rfl⟩
  · rw [show wiB n 1 4 = false by simp [wiB, h1]]
    go_enter Tryz.func60, Tryz.ntmps60
    go_wp2
    go_ret
    exact ⟨rfl, rfl⟩

theorem qwc (n hi : Int) (w : World) : Calls Tryz.prog 61 #[.int .i64 n, .int .i64 hi] w fun e w' => e = .returned (.bool (wiB n 0 hi)) ∧ w' = w := by
  by_cases h1 : 0 ≤ n
  · by_cases h2 : n ≤ hi
    · rw [show wiB n 0 hi = true by simp [wiB, h1, h2]]
      go_enter Tryz.func61, Tryz.ntmps61
      go_wp2
      go_ret
      exact ⟨rfl, rfl⟩
    · rw [show wiB n 0 hi = false by simp [wiB, h1, h2]]
      go_enter Tryz.func61, Tryz.ntmps61
      go_wp2
      go_ret
      exact ⟨rfl, rfl⟩
  · rw [show wiB n 0 hi = false by simp [wiB, h1]]
    go_enter Tryz.func61, Tryz.ntmps61
    go_wp2
    go_ret
    exact ⟨rfl, rfl⟩

set_option maxRecDepth 10000 in
set_option maxHeartbeats 4000000 in
theorem isHead_any (kd fr up tm ix lt cm : Int) (ok : Bool) (da : ByteArray) (la : Bool) (e c : Value) (w : World) : Calls Tryz.prog 27 #[.agg #[.int .i64 kd, .int .i64 fr, .int .i64 up, .int .i64 tm, .int .i64 ix, .int .i64 lt, .int .i64 cm, .bool ok, e, c, .string da, .bool la]] w fun e w' => e = .returned (.bool (headM kd fr up tm ix lt cm)) ∧ Below w.heap.size w w' := by
  by_cases k0 : 1 ≤ kd
  rotate_left
  · rw [show headM kd fr up tm ix lt cm = false by simp [headM, wiB, k0]]
    go_enter Tryz.func27, Tryz.ntmps27
    go_wp2_with (first | (go_at_call 60; refine (qac _ _).mono ?_; rintro e w2 ⟨rfl, hw⟩; have hw2 := hw.symm; subst hw2; first | rw [h2] | rw [h3] | rw [h5] | rw [h6] | rw [h7] | rw [h8]) | (go_at_call 61; refine (qwc _ _ _).mono ?_; rintro e w2 ⟨rfl, hw⟩; have hw2 := hw.symm; subst hw2; first | rw [h2] | rw [h3] | rw [h5] | rw [h6] | rw [h7] | rw [h8]))
    go_ret
    exact ⟨rfl, ba (Below.refl _ _) _⟩
  by_cases k1 : kd ≤ 6
  rotate_left
  · rw [show headM kd fr up tm ix lt cm = false by simp [headM, wiB, k1]]
    go_enter Tryz.func27, Tryz.ntmps27
    go_wp2_with (first | (go_at_call 60; refine (qac _ _).mono ?_; rintro e w2 ⟨rfl, hw⟩; have hw2 := hw.symm; subst hw2; first | rw [h2] | rw [h3] | rw [h5] | rw [h6] | rw [h7] | rw [h8]) | (go_at_call 61; refine (qwc _ _ _).mono ?_; rintro e w2 ⟨rfl, hw⟩; have hw2 := hw.symm; subst hw2; first | rw [h2] | rw [h3] | rw [h5] | rw [h6] | rw [h7] | rw [h8]))
    go_ret
    exact ⟨rfl, ba (Below.refl _ _) _⟩
  cases h2 : wiB fr 1 4 with
  | false =>
    rw [show headM kd fr up tm ix lt cm = false by simp [headM, h2]]
    go_enter Tryz.func27, Tryz.ntmps27
    go_wp2_with (first | (go_at_call 60; refine (qac _ _).mono ?_; rintro e w2 ⟨rfl, hw⟩; have hw2 := hw.symm; subst hw2; first | rw [h2] | rw [h3] | rw [h5] | rw [h6] | rw [h7] | rw [h8]) | (go_at_call 61; refine (qwc _ _ _).mono ?_; rintro e w2 ⟨rfl, hw⟩; have hw2 := hw.symm; subst hw2; first | rw [h2] | rw [h3] | rw [h5] | rw [h6] | rw [h7] | rw [h8]))
    go_ret
    exact ⟨rfl, ba (Below.refl _ _) _⟩
  | true =>
  cases h3 : wiB up 1 4 with
  | false =>
    rw [show headM kd fr up tm ix lt cm = false by simp [headM, h3]]
    go_enter Tryz.func27, Tryz.ntmps27
    go_wp2_with (first | (go_at_call 60; refine (qac _ _).mono ?_; rintro e w2 ⟨rfl, hw⟩; have hw2 := hw.symm; subst hw2; first | rw [h2] | rw [h3] | rw [h5] | rw [h6] | rw [h7] | rw [h8]) | (go_at_call 61; refine (qwc _ _ _).mono ?_; rintro e w2 ⟨rfl, hw⟩; have hw2 := hw.symm; subst hw2; first | rw [h2] | rw [h3] | rw [h5] | rw [h6] | rw [h7] | rw [h8]))
    go_ret
    exact ⟨rfl, ba (Below.refl _ _) _⟩
  | true =>
  by_cases k4 : fr = up
  · rw [show headM kd fr up tm ix lt cm = false by simp [headM, k4]]
    go_enter Tryz.func27, Tryz.ntmps27
    go_wp2_with (first | (go_at_call 60; refine (qac _ _).mono ?_; rintro e w2 ⟨rfl, hw⟩; have hw2 := hw.symm; subst hw2; first | rw [h2] | rw [h3] | rw [h5] | rw [h6] | rw [h7] | rw [h8]) | (go_at_call 61; refine (qwc _ _ _).mono ?_; rintro e w2 ⟨rfl, hw⟩; have hw2 := hw.symm; subst hw2; first | rw [h2] | rw [h3] | rw [h5] | rw [h6] | rw [h7] | rw [h8]))
    go_ret
    exact ⟨rfl, ba (Below.refl _ _) _⟩
  have hk4 : (fr != up) = true := by simp [k4]
  cases h5 : wiB tm 0 100000 with
  | false =>
    rw [show headM kd fr up tm ix lt cm = false by simp [headM, h5]]
    go_enter Tryz.func27, Tryz.ntmps27
    go_wp2_with (first | (go_at_call 60; refine (qac _ _).mono ?_; rintro e w2 ⟨rfl, hw⟩; have hw2 := hw.symm; subst hw2; first | rw [h2] | rw [h3] | rw [h5] | rw [h6] | rw [h7] | rw [h8]) | (go_at_call 61; refine (qwc _ _ _).mono ?_; rintro e w2 ⟨rfl, hw⟩; have hw2 := hw.symm; subst hw2; first | rw [h2] | rw [h3] | rw [h5] | rw [h6] | rw [h7] | rw [h8]))
    go_ret
    exact ⟨rfl, ba (Below.refl _ _) _⟩
  | true =>
  cases h6 : wiB lt 0 100000 with
  | false =>
    rw [show headM kd fr up tm ix lt cm = false by simp [headM, h6]]
    go_enter Tryz.func27, Tryz.ntmps27
    go_wp2_with (first | (go_at_call 60; refine (qac _ _).mono ?_; rintro e w2 ⟨rfl, hw⟩; have hw2 := hw.symm; subst hw2; first | rw [h2] | rw [h3] | rw [h5] | rw [h6] | rw [h7] | rw [h8]) | (go_at_call 61; refine (qwc _ _ _).mono ?_; rintro e w2 ⟨rfl, hw⟩; have hw2 := hw.symm; subst hw2; first | rw [h2] | rw [h3] | rw [h5] | rw [h6] | rw [h7] | rw [h8]))
    go_ret
    exact ⟨rfl, ba (Below.refl _ _) _⟩
  | true =>
  cases h7 : wiB ix 0 1000000 with
  | false =>
    rw [show headM kd fr up tm ix lt cm = false by simp [headM, h7]]
    go_enter Tryz.func27, Tryz.ntmps27
    go_wp2_with (first | (go_at_call 60; refine (qac _ _).mono ?_; rintro e w2 ⟨rfl, hw⟩; have hw2 := hw.symm; subst hw2; first | rw [h2] | rw [h3] | rw [h5] | rw [h6] | rw [h7] | rw [h8]) | (go_at_call 61; refine (qwc _ _ _).mono ?_; rintro e w2 ⟨rfl, hw⟩; have hw2 := hw.symm; subst hw2; first | rw [h2] | rw [h3] | rw [h5] | rw [h6] | rw [h7] | rw [h8]))
    go_ret
    exact ⟨rfl, ba (Below.refl _ _) _⟩
  | true =>
  cases h8 : wiB cm 0 1000000 with
  | false =>
    rw [show headM kd fr up tm ix lt cm = false by simp [headM, h8]]
    go_enter Tryz.func27, Tryz.ntmps27
    go_wp2_with (first | (go_at_call 60; refine (qac _ _).mono ?_; rintro e w2 ⟨rfl, hw⟩; have hw2 := hw.symm; subst hw2; first | rw [h2] | rw [h3] | rw [h5] | rw [h6] | rw [h7] | rw [h8]) | (go_at_call 61; refine (qwc _ _ _).mono ?_; rintro e w2 ⟨rfl, hw⟩; have hw2 := hw.symm; subst hw2; first | rw [h2] | rw [h3] | rw [h5] | rw [h6] | rw [h7] | rw [h8]))
    go_ret
    exact ⟨rfl, ba (Below.refl _ _) _⟩
  | true =>
  rw [show headM kd fr up tm ix lt cm = true by simp only [headM, show wiB kd 1 6 = true by simp [wiB, k0, k1], h2, h3, decide_eq_false k4, h5, h6, h7, h8]; rfl]
  go_enter Tryz.func27, Tryz.ntmps27
  go_wp2_with (first | (go_at_call 60; refine (qac _ _).mono ?_; rintro e w2 ⟨rfl, hw⟩; have hw2 := hw.symm; subst hw2; first | rw [h2] | rw [h3] | rw [h5] | rw [h6] | rw [h7] | rw [h8]) | (go_at_call 61; refine (qwc _ _ _).mono ?_; rintro e w2 ⟨rfl, hw⟩; have hw2 := hw.symm; subst hw2; first | rw [h2] | rw [h3] | rw [h5] | rw [h6] | rw [h7] | rw [h8]))
  go_ret
  exact ⟨rfl, ba (Below.refl _ _) _⟩

set_option maxHeartbeats 1000000 in
theorem sending_any (kd fr up tm ix lt cm : Int) (ok : Bool) (da : ByteArray) (la : Bool) (ao bo : Option Addr) (n cap m cbp : Nat) (w : World) : Calls Tryz.prog 28 #[.agg #[.int .i64 kd, .int .i64 fr, .int .i64 up, .int .i64 tm, .int .i64 ix, .int .i64 lt, .int .i64 cm, .bool ok, .slice ao n cap, .slice bo m cbp, .string da, .bool la]] w fun e' w' => e' = .returned (.agg #[.int .i64 0, .int .i64 lt, .slice ao n cap, .int .i64 tm]) ∧ Below w.heap.size w w' := by
  go_enter Tryz.func28, Tryz.ntmps28
  go_wp2
  refine bodyPost_ret (ret_snd rfl rfl (by simp [go_sem]) (by simp [go_sem]) (by simp [go_sem]) (by simp [go_sem])) rfl ⟨rfl, ?_⟩
  exact ba (ba (Below.refl _ _) _) _
set_option maxHeartbeats 1000000 in
theorem chunk_any (kd fr up tm ix lt cm : Int) (ok : Bool) (da : ByteArray) (la : Bool) (ao bo : Option Addr) (n cap m cbp : Nat) (w : World) : Calls Tryz.prog 30 #[.agg #[.int .i64 kd, .int .i64 fr, .int .i64 up, .int .i64 tm, .int .i64 ix, .int .i64 lt, .int .i64 cm, .bool ok, .slice ao n cap, .slice bo m cbp, .string da, .bool la]] w fun e' w' => e' = .returned (.agg #[.slice bo m cbp, .string da, .bool la]) ∧ Below w.heap.size w w' := by
  go_enter Tryz.func30, Tryz.ntmps30
  go_wp2
  refine bodyPost_ret (ret_chk rfl rfl (by simp [go_sem]) (by simp [go_sem]) (by simp [go_sem])) rfl ⟨rfl, ?_⟩
  exact ba (ba (Below.refl _ _) _) _
set_option maxHeartbeats 1000000 in
theorem sNone_any (lt tm : Int) (e : Value) (es : List En) (w : World) (he : Reads w e es) : Calls Tryz.prog 153 #[.agg #[.int .i64 0, .int .i64 lt, e, .int .i64 tm]] w fun e w' => e = .returned (.bool (noneS es)) ∧ Below w.heap.size w w' := by
  obtain ⟨ao, cap, rfl, _⟩ := id he
  clear he
  unfold noneS
  generalize es.length = n
  by_cases h : n = 0
  · subst h
    go_enter Tryz.func153, Tryz.ntmps153
    go_wp2
    go_ret
    exact ⟨rfl, ba (Below.refl _ _) _⟩
  · rw [decide_eq_false h]
    have hb : ((n : Int) == 0) = false := by simp; omega
    go_enter Tryz.func153, Tryz.ntmps153
    go_wp2
    go_ret
    exact ⟨rfl, ba (Below.refl _ _) _⟩
set_option maxRecDepth 10000 in
set_option maxHeartbeats 4000000 in
theorem sRight_any (lt tm : Int) (e : Value) (es : List En) (w : World) (he : Reads w e es) (hn : es.length ≤ 1048577) (hz : qsc es) : Calls Tryz.prog 154 #[.agg #[.int .i64 0, .int .i64 lt, e, .int .i64 tm]] w fun e w' => e = .returned (.bool (sendM tm lt es)) ∧ Below w.heap.size w w' := by
  obtain ⟨ao, cap, rfl, _⟩ := id he
  have HR : Hid (Reads w (.slice ao es.length cap) es) := he
  have HN : Hid (es.length ≤ 1048577) := hn
  have HZ : Hid (qsc es) := hz
  clear he hn hz
  obtain ⟨q, HQ⟩ : ∃ q, Hid (sendM tm lt es = q) := ⟨_, rfl⟩
  rw [HQ.out]
  obtain ⟨x0, HX⟩ : ∃ q, Hid (lastI 0 es = q) := ⟨_, rfl⟩
  obtain ⟨x1, HY⟩ : ∃ q, Hid (lastT lt es = q) := ⟨_, rfl⟩
  obtain ⟨n, HM⟩ : ∃ n, Hid (es.length = n) := ⟨_, rfl⟩
  rw [HM.out] at HR ⊢
  go_enter Tryz.func154, Tryz.ntmps154
  go_wp2_with fail
  refine (logLast_any (HR.out.alloc _) HN.out).mono ?_
  rintro e w2 ⟨rfl, hb2⟩
  rw [HX.out, HY.out]
  have c0 : w2.cell? ⟨w.heap.size, 0, none⟩ = some (.int .i64 0) := (hb2.cell (by simp)).trans (by simp [go_sem])
  have c1 : w2.cell? ⟨w.heap.size, 1, none⟩ = some (.int .i64 lt) := (hb2.cell (by simp)).trans (by simp [go_sem])
  have c2 : w2.cell? ⟨w.heap.size, 2, none⟩ = some (.slice ao n cap) := (hb2.cell (by simp)).trans (by simp [go_sem])
  have c3 : w2.cell? ⟨w.heap.size, 3, none⟩ = some (.int .i64 tm) := (hb2.cell (by simp)).trans (by simp [go_sem])
  have B2 := qma hb2
  clear hb2
  go_wp2_with fail
  refine (sNone_any lt tm _ es _ (HR.out.below B2)).mono ?_
  rintro e w3 ⟨rfl, hb3⟩
  have d0 := qia hb3 c0
  have d1 := qia hb3 c1
  have d2 := qia hb3 c2
  have d3 := qia hb3 c3
  have B3 := B2.trans (hb3.mono B2.size)
  clear hb3 c0 c1 c2 c3 B2
  cases hz : noneS es with
  | true =>
    obtain rfl : true = q := by rw [← HQ.out]; simp only [sendM]; rw [show decide (es.length = 0) = true from hz]; rfl
    go_wp2
    go_ret
    exact ⟨rfl, B3⟩
  | false =>
  have HE : Hid (q = (decide (n ≤ 4) && (okL 0 lt es && decide (x1 ≤ tm)))) := by show _ = _; rw [← HQ.out, ← HY.out, ← HM.out]; simp only [sendM]; rw [show decide (es.length = 0) = false from hz]; rfl
  clear hz
  by_cases h4 : n ≤ 4
  rotate_left
  · obtain rfl : q = false := by rw [HE.out, decide_eq_false h4]; rfl
    go_wp2
    go_ret
    exact ⟨rfl, B3⟩
  go_wp2_with fail
  refine (logOk_any (s := 0) (t := lt) (HR.out.below B3) HN.out HZ.out).mono ?_
  rintro e w4 ⟨rfl, hb4⟩
  have e3 := qia hb4 d3
  have B4 := B3.trans (hb4.mono B3.size)
  clear hb4 d0 d1 d2 d3 B3
  cases hk : okL 0 lt es with
  | false =>
    obtain rfl : q = false := by rw [HE.out, hk]; simp
    go_wp2
    go_ret
    exact ⟨rfl, B4⟩
  | true =>
  by_cases h5 : x1 ≤ tm
  · obtain rfl : q = true := by rw [HE.out, hk, decide_eq_true h4, decide_eq_true h5]; rfl
    go_wp2
    go_ret
    exact ⟨rfl, B4⟩
  · obtain rfl : q = false := by rw [HE.out, decide_eq_false h5]; simp
    go_wp2
    go_ret
    exact ⟨by show Ending.returned (.bool (decide (x1 ≤ tm))) = _; rw [decide_eq_false (by omega)], B4⟩
end Go.Proofs.YtpjpheicldegkaaGreatDoor
