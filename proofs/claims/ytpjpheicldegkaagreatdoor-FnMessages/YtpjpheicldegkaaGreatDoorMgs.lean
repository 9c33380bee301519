/- Mgs -/
import Derived.Test.YtpjpheicldegkaaGreatDoorMgp
namespace Go.Proofs.YtpjpheicldegkaaGreatDoor
open Go Go.RowKit

def qxd (tm : Int) : Int → List En → Bool
  | _, [] => true
  | a, e :: r => okE e.term e.kind e.data && (decide (a ≤ e.term) && (decide (e.term ≤ tm) && qxd tm e.term r))
def tailM (kd : Int) (da : ByteArray) (la : Bool) (cs : List Int) : Bool := if kd = 5 then chunkM cs da else noneC cs da la
def sendS (kd tm lt : Int) (es : List En) : Bool := decide (es.length ≤ 4) && ((decide (es.length = 0) || decide (kd = 3)) && qxd tm lt es)
def okMs (kd fr up tm ix lt cm : Int) (da : ByteArray) (la : Bool) (es : List En) (cs : List Int) : Bool := headM kd fr up tm ix lt cm && (sendS kd tm lt es && tailM kd da la cs)
theorem risesU_at {tm : Int} {l : List En} {k : Nat} {a : Int} {x : En} (h : l[k]? = some x) : qxd tm a (l.drop k) = (okE x.term x.kind x.data && (decide (a ≤ x.term) && (decide (x.term ≤ tm) && qxd tm x.term (l.drop (k + 1))))) := by
  have hk : k < l.length := (List.getElem?_eq_some_iff.1 h).1
  have e : l[k] = x := by rw [List.getElem?_eq_getElem hk] at h; exact Option.some.inj h
  rw [List.drop_eq_getElem_cons hk, e]
  rfl
theorem lastT_cons (a : Int) (e : En) (r : List En) : lastT a (e :: r) = lastT e.term r := by
  unfold lastT
  cases r with
  | nil => rfl
  | cons x y => rw [List.getLast?_cons_cons]; cases h : (x :: y).getLast? with
    | none => simp at h
    | some z => rfl
theorem rises_last : ∀ (l : List En) (a : Int), rises a l = true → a ≤ lastT a l
  | [], a, _ => by simp [lastT]
  | e :: r, a, h => by
    simp only [rises, Bool.and_eq_true, decide_eq_true_eq] at h
    have := rises_last r e.term h.2
    rw [lastT_cons]
    omega
theorem risesU_eq (tm : Int) : ∀ (l : List En) (a : Int), qxd tm a l = (rises a l && (decide (l.length = 0) || decide (lastT a l ≤ tm)))
  | [], a => by simp [qxd, rises]
  | e :: r, a => by
    have ih := risesU_eq tm r e.term
    simp only [qxd, rises, ih, lastT_cons]
    cases h1 : rises e.term r with
    | false => simp
    | true =>
      have h2 := rises_last r e.term h1
      cases r with
      | nil => cases okE e.term e.kind e.data <;> cases h5 : decide (a ≤ e.term) <;> first | rfl | (simp [lastT]; done) | (simp [lastT]; rfl)
      | cons x y =>
        by_cases h3 : lastT e.term (x :: y) ≤ tm
        · have h4 : e.term ≤ tm := by omega
          simp [h3, h4]
        · simp [h3]
theorem okM_eq (kd fr up tm ix lt cm : Int) (da : ByteArray) (la : Bool) (es : List En) (cs : List Int) : okM kd fr up tm ix lt cm da la es cs = okMs kd fr up tm ix lt cm da la es cs := by
  unfold okM okMs tailM sendS
  cases hh : headM kd fr up tm ix lt cm with
  | false => rfl
  | true =>
  congr 2
  rw [risesU_eq]
  have hlt : 0 ≤ lt ∧ lt ≤ 100000 := by
    simp only [headM, wiB, Bool.and_eq_true, decide_eq_true_eq] at hh
    exact hh.2.2.2.2.2.1
  unfold sendM noneS
  by_cases hn : es.length = 0
  · have : es = [] := List.eq_nil_of_length_eq_zero hn
    subst this
    simp [rises]
  · by_cases hk : kd = 3
    · by_cases h4 : es.length ≤ 4
      · rw [okL_in (by omega) (by omega) hlt.1 hlt.2 (by omega) (by omega)]
        simp [hk, hn, h4]
      · simp [hk, hn, h4]
    · simp [hk, hn]
theorem qae (x lo hi : Int) (w : World) : Calls Tryz.prog 24 #[.int .i64 x, .int .i64 lo, .int .i64 hi] w fun e w' => e = .returned (.bool (wiB x lo hi)) ∧ w' = w := qub x lo hi w

set_option maxRecDepth 10000 in
set_option maxHeartbeats 8000000 in
theorem specMessageOk_try (kd fr up tm ix lt cm : Int) (ok : Bool) (da : ByteArray) (la : Bool) (ao bo : Option Addr) (cap cbp : Nat) (es : List En) (cs : List Int) (w : World) (he : Reads w (.slice ao es.length cap) es) (hc : Reads w (.slice bo cs.length cbp) cs) (hn : es.length ≤ 1048577) (hm : cs.length ≤ 1048577) (hz : qsc es) : Calls Tryz.prog 8 #[.agg #[.int .i64 kd, .int .i64 fr, .int .i64 up, .int .i64 tm, .int .i64 ix, .int .i64 lt, .int .i64 cm, .bool ok, (.slice ao es.length cap), (.slice bo cs.length cbp), .string da, .bool la]] w fun e w' => e = .returned (.bool (okMs kd fr up tm ix lt cm da la es cs)) ∧ Below w.heap.size w w' := by
  have HE : Hid (Reads w (.slice ao es.length cap) es) := he
  have HC : Hid (Reads w (.slice bo cs.length cbp) cs) := hc
  have HN : Hid (es.length ≤ 1048577) := hn
  have HM : Hid (cs.length ≤ 1048577) := hm
  have HZ : Hid (qsc es) := hz
  clear he hc hn hm hz
  cases h1 : wiB kd 1 6 with
  | false =>
    rw [show okMs kd fr up tm ix lt cm da la es cs = false by simp [okMs, headM, h1]]
    go_enter Tryz.func8, Tryz.ntmps8
    go_wp2_with (go_at_call 24; refine (qae _ _ _ _).mono ?_; rintro e w2 ⟨rfl, hw⟩; have hw2 := hw.symm; subst hw2; first | rw [h1] | rw [h2] | rw [h3] | rw [h5] | rw [h6] | rw [h7] | rw [h8])
    go_ret
    exact ⟨rfl, ba (Below.refl _ _) _⟩
  | true =>
  cases h2 : wiB fr 1 4 with
  | false =>
    rw [show okMs kd fr up tm ix lt cm da la es cs = false by simp [okMs, headM, h2]]
    go_enter Tryz.func8, Tryz.ntmps8
    go_wp2_with (go_at_call 24; refine (qae _ _ _ _).mono ?_; rintro e w2 ⟨rfl, hw⟩; have hw2 := hw.symm; subst hw2; first | rw [h1] | rw [h2] | rw [h3] | rw [h5] | rw [h6] | rw [h7] | rw [h8])
    go_ret
    exact ⟨rfl, ba (Below.refl _ _) _⟩
  | true =>
  cases h3 : wiB up 1 4 with
  | false =>
    rw [show okMs kd fr up tm ix lt cm da la es cs = false by simp [okMs, headM, h3]]
    go_enter Tryz.func8, Tryz.ntmps8
    go_wp2_with (go_at_call 24; refine (qae _ _ _ _).mono ?_; rintro e w2 ⟨rfl, hw⟩; have hw2 := hw.symm; subst hw2; first | rw [h1] | rw [h2] | rw [h3] | rw [h5] | rw [h6] | rw [h7] | rw [h8])
    go_ret
    exact ⟨rfl, ba (Below.refl _ _) _⟩
  | true =>
  by_cases k4 : fr = up
  · rw [show okMs kd fr up tm ix lt cm da la es cs = false by simp [okMs, headM, k4]]
    subst k4
    go_enter Tryz.func8, Tryz.ntmps8
    go_wp2_with (go_at_call 24; refine (qae _ _ _ _).mono ?_; rintro e w2 ⟨rfl, hw⟩; have hw2 := hw.symm; subst hw2; first | rw [h1] | rw [h2] | rw [h3] | rw [h5] | rw [h6] | rw [h7] | rw [h8])
    go_ret
    exact ⟨rfl, ba (Below.refl _ _) _⟩
  have hk4 : (fr == up) = false := by simp [k4]
  cases h5 : wiB tm 0 100000 with
  | false =>
    rw [show okMs kd fr up tm ix lt cm da la es cs = false by simp [okMs, headM, h5]]
    go_enter Tryz.func8, Tryz.ntmps8
    go_wp2_with (go_at_call 24; refine (qae _ _ _ _).mono ?_; rintro e w2 ⟨rfl, hw⟩; have hw2 := hw.symm; subst hw2; first | rw [h1] | rw [h2] | rw [h3] | rw [h5] | rw [h6] | rw [h7] | rw [h8])
    go_ret
    exact ⟨rfl, ba (Below.refl _ _) _⟩
  | true =>
  cases h6 : wiB lt 0 100000 with
  | false =>
    rw [show okMs kd fr up tm ix lt cm da la es cs = false by simp [okMs, headM, h6]]
    go_enter Tryz.func8, Tryz.ntmps8
    go_wp2_with (go_at_call 24; refine (qae _ _ _ _).mono ?_; rintro e w2 ⟨rfl, hw⟩; have hw2 := hw.symm; subst hw2; first | rw [h1] | rw [h2] | rw [h3] | rw [h5] | rw [h6] | rw [h7] | rw [h8])
    go_ret
    exact ⟨rfl, ba (Below.refl _ _) _⟩
  | true =>
  cases h7 : wiB ix 0 1000000 with
  | false =>
    rw [show okMs kd fr up tm ix lt cm da la es cs = false by simp [okMs, headM, h7]]
    go_enter Tryz.func8, Tryz.ntmps8
    go_wp2_with (go_at_call 24; refine (qae _ _ _ _).mono ?_; rintro e w2 ⟨rfl, hw⟩; have hw2 := hw.symm; subst hw2; first | rw [h1] | rw [h2] | rw [h3] | rw [h5] | rw [h6] | rw [h7] | rw [h8])
    go_ret
    exact ⟨rfl, ba (Below.refl _ _) _⟩
  | true =>
  cases h8 : wiB cm 0 1000000 with
  | false =>
    rw [show okMs kd fr up tm ix lt cm da la es cs = false by simp [okMs, headM, h8]]
    go_enter Tryz.func8, Tryz.ntmps8
    go_wp2_with (go_at_call 24; refine (qae _ _ _ _).mono ?_; rintro e w2 ⟨rfl, hw⟩; have hw2 := hw.symm; subst hw2; first | rw [h1] | rw [h2] | rw [h3] | rw [h5] | rw [h6] | rw [h7] | rw [h8])
    go_ret
    exact ⟨rfl, ba (Below.refl _ _) _⟩
  | true =>
  obtain ⟨R, HR⟩ : ∃ R, Hid (okMs kd fr up tm ix lt cm da la es cs = R) := ⟨_, rfl⟩
  rw [HR.out]
  have HR1 : Hid (R = (sendS kd tm lt es && tailM kd da la cs)) := by
    show R = _
    rw [← HR.out]
    unfold okMs
    rw [show headM kd fr up tm ix lt cm = true by simp only [headM, h1, h2, h3, decide_eq_false k4, h5, h6, h7, h8]; rfl]
    rfl
  clear HR
  obtain ⟨n, Hn⟩ : ∃ n, Hid (es.length = n) := ⟨_, rfl⟩
  rw [Hn.out] at HE ⊢
  obtain ⟨m, Hm⟩ : ∃ m, Hid (cs.length = m) := ⟨_, rfl⟩
  rw [Hm.out] at HC ⊢
  by_cases h9 : n ≤ 4
  rotate_left
  · obtain rfl : R = false := by rw [HR1.out]; simp [sendS, Hn.out, h9]
    go_enter Tryz.func8, Tryz.ntmps8
    go_wp2_with (go_at_call 24; refine (qae _ _ _ _).mono ?_; rintro e w2 ⟨rfl, hw⟩; have hw2 := hw.symm; subst hw2; first | rw [h1] | rw [h2] | rw [h3] | rw [h5] | rw [h6] | rw [h7] | rw [h8])
    go_ret
    exact ⟨rfl, ba (Below.refl _ _) _⟩
  by_cases h10 : n = 0 ∨ kd = 3
  rotate_left
  · obtain rfl : R = false := by rw [HR1.out]; simp [sendS, Hn.out, h9]; intro h; exact absurd h h10
    have h11 : 0 < n := by omega
    have h12 : kd ≠ 3 := fun h => h10 (.inr h)
    clear h10
    have h13 : (kd != 3) = true := by simp [h12]
    go_enter Tryz.func8, Tryz.ntmps8
    go_wp2_with (go_at_call 24; refine (qae _ _ _ _).mono ?_; rintro e w2 ⟨rfl, hw⟩; have hw2 := hw.symm; subst hw2; first | rw [h1] | rw [h2] | rw [h3] | rw [h5] | rw [h6] | rw [h7] | rw [h8])
    go_ret
    exact ⟨rfl, ba (Below.refl _ _) _⟩
  have HR2 : Hid (R = (qxd tm lt es && tailM kd da la cs)) := by
    show R = _
    rw [HR1.out]
    unfold sendS
    rw [Hn.out, decide_eq_true h9]
    rcases h10 with h | h <;> simp [h]
  clear HR1
  by_cases h0 : n = 0
  · subst h0
    have HR4 : Hid (R = tailM kd da la cs) := by show R = _; rw [HR2.out, List.eq_nil_of_length_eq_zero Hn.out]; rfl
    go_enter Tryz.func8, Tryz.ntmps8
    go_wp2_with (go_at_call 24; refine (qae _ _ _ _).mono ?_; rintro e w2 ⟨rfl, hw⟩; have hw2 := hw.symm; subst hw2; first | rw [h1] | rw [h2] | rw [h3] | rw [h5] | rw [h6] | rw [h7] | rw [h8])
    clear h1 h2 h3 h5 h6 h7 h8 hk4 k4
    go_loopw [3, 4] (fun x i wr => x = .int .i64 lt ∧ i = .int .i64 0 ∧ Below (w.heap.size + 1) (w.alloc (.cells #[.int .i64 kd, .int .i64 fr, .int .i64 up, .int .i64 tm, .int .i64 ix, .int .i64 lt, .int .i64 cm, .bool ok, .slice ao 0 cap, .slice bo m cbp, .string da, .bool la] 27)) wr) (fun _ _ _ => 0)
    case atStart => exact ⟨rfl, rfl, Below.refl _ _⟩
    case round =>
      obtain ⟨rfl, rfl, hbw⟩ := hrel
      have hbel : Below w.heap.size w wr := (ba (Below.refl _ _) _).trans (hbw.mono (by omega))
      have K := (Kc12.new 27 w (.int .i64 kd) (.int .i64 fr) (.int .i64 up) (.int .i64 tm) (.int .i64 ix) (.int .i64 lt) (.int .i64 cm) (.bool ok) (.slice ao 0 cap) (.slice bo m cbp) (.string da) (.bool la)).on hbw (by omega)
      have c0 := K.c0
      have c3 := K.c3
      have c8 := K.c8
      have c9 := K.c9
      have c10 := K.c10
      have c11 := K.c11
      clear K
      by_cases h15 : kd = 5
      · subst h15
        have HR3 : Hid (R = chunkM cs da) := HR4.out
        go_wp2_with fail
        refine (qtd (HC.out.below hbel) HM.out).mono ?_
        rintro e w5 ⟨rfl, hb5⟩
        have c10b := qia hb5 c10
        have B5 := hbel.trans (hb5.mono hbel.size)
        clear hb5
        cases hk : okC cs with
        | false =>
          obtain rfl : R = false := by rw [HR3.out]; unfold chunkM; rw [hk]; rfl
          go_wp2
          go_ret
          exact ⟨rfl, B5⟩
        | true =>
        obtain rfl : R = decide ((da.size : Int) ≤ 60) := by rw [HR3.out]; unfold chunkM; rw [hk, Bool.true_and]; exact decide_eq_decide.2 (by omega)
        go_wp2
        go_ret
        exact ⟨rfl, B5⟩
      · have h16 : (kd == 5) = false := by simp [h15]
        have HR3 : Hid (R = noneC cs da la) := by show R = _; rw [HR4.out]; unfold tailM; rw [if_neg h15]
        by_cases hm0 : m = 0
        · subst hm0
          by_cases hd : da.toList = []
          · obtain rfl : R = !la := by rw [HR3.out]; unfold noneC; rw [Hm.out, decide_eq_true hd]; rfl
            cases la
            all_goals
              go_wp2
              go_ret
              exact ⟨rfl, hbel⟩
          · obtain rfl : R = false := by rw [HR3.out]; unfold noneC; rw [decide_eq_false hd]; simp
            have h3 : (da.toList == []) = false := by cases hl : da.toList with | nil => exact absurd hl hd | cons a b => rfl
            go_wp2
            go_ret
            exact ⟨rfl, hbel⟩
        · obtain rfl : R = false := by rw [HR3.out]; unfold noneC; rw [Hm.out, decide_eq_false hm0]; rfl
          have hb : ((m : Int) == 0) = false := by simp; omega
          go_wp2
          go_ret
          exact ⟨rfl, hbel⟩
  · have h17 : 0 < n := by omega
    obtain rfl : kd = 3 := h10.resolve_left h0
    clear h10 h0
    have HR4 : Hid (R = (qxd tm lt es && noneC cs da la)) := HR2.out
    go_enter Tryz.func8, Tryz.ntmps8
    go_wp2_with (go_at_call 24; refine (qae _ _ _ _).mono ?_; rintro e w2 ⟨rfl, hw⟩; have hw2 := hw.symm; subst hw2; first | rw [h1] | rw [h2] | rw [h3] | rw [h5] | rw [h6] | rw [h7] | rw [h8])
    clear h1 h2 h3 h5 h6 h7 h8 hk4 k4
    go_loopw [3, 4] (fun x i wr => ∃ (k : Nat) (a : Int), k ≤ n ∧ i = .int .i64 k ∧ x = .int .i64 a ∧ Hid (qxd tm a (es.drop k) = qxd tm lt es) ∧ Below (w.heap.size + 1) (w.alloc (.cells #[.int .i64 3, .int .i64 fr, .int .i64 up, .int .i64 tm, .int .i64 ix, .int .i64 lt, .int .i64 cm, .bool ok, .slice ao n cap, .slice bo m cbp, .string da, .bool la] 27)) wr) (fun _ i _ => n - (intOf i).toNat)
    case atStart => exact ⟨0, lt, Nat.zero_le _, rfl, rfl, by simp [Hid], Below.refl _ _⟩
    case round =>
      obtain ⟨k, a, hk, rfl, rfl, HX, hbw⟩ := hrel
      have hbel : Below w.heap.size w wr := (ba (Below.refl _ _) _).trans (hbw.mono (by omega))
      have K := (Kc12.new 27 w (.int .i64 3) (.int .i64 fr) (.int .i64 up) (.int .i64 tm) (.int .i64 ix) (.int .i64 lt) (.int .i64 cm) (.bool ok) (.slice ao n cap) (.slice bo m cbp) (.string da) (.bool la)).on hbw (by omega)
      have c0 := K.c0
      have c3 := K.c3
      have c8 := K.c8
      have c9 := K.c9
      have c10 := K.c10
      have c11 := K.c11
      clear K
      by_cases hlt : k < n
      · obtain ⟨f, hf⟩ : ∃ f, es[k]? = some f := ⟨_, List.getElem?_eq_getElem (by rw [Hn.out]; exact hlt)⟩
        have HM2 : Hid (f.data.size ≤ maxLen) := by have := HZ.out f (List.mem_of_getElem? hf); show _ ≤ maxLen; unfold maxLen; omega
        obtain ⟨b, o, rfl, hb, e0, e1, e2⟩ := en_at (HE.out.below hbel) hf
        have HS : Hid (qxd tm lt es = (okE f.term f.kind f.data && (decide (a ≤ f.term) && (decide (f.term ≤ tm) && qxd tm f.term (es.drop (k + 1)))))) := by show _ = _; rw [← HX.out]; exact risesU_at hf
        clear hf HX
        have q0 := Wd.cell e0
        have q1 := Wd.cell e1
        have q2 := Wd.cell e2
        have q3 := Wd.cell c3
        have q8 := Wd.cell c8
        cases hq : okE f.term f.kind f.data with
        | false =>
          have EE : Hid (∀ W, Calls Tryz.prog 25 #[.agg #[.int .i64 f.term, .int .i64 f.kind, .string f.data]] W fun e w' => e = .returned (.bool false) ∧ Below W.heap.size W w') := fun W => by have := qhd f.term f.kind f.data W HM2.out; rwa [hq] at this
          obtain rfl : R = false := by rw [HR4.out, HS.out, hq]; rfl
          go_wp2
          refine qba (by kernel_rfl) (by kernel_rfl) ?_
          repeat (go_big_quiet_step ((go_at_call 25; refine qwa (v := .bool false) ?_; with_reducible exact EE.out _)))
          refine wpQuiet_nil ?_
          rintro _ ⟨x1, rfl⟩
          go_wp2
          go_ret
          exact ⟨rfl, hbel.trans (x1.ok.mono hbel.size)⟩
        | true =>
        have EE : Hid (∀ W, Calls Tryz.prog 25 #[.agg #[.int .i64 f.term, .int .i64 f.kind, .string f.data]] W fun e w' => e = .returned (.bool true) ∧ Below W.heap.size W w') := fun W => by have := qhd f.term f.kind f.data W HM2.out; rwa [hq] at this
        by_cases ha : a ≤ f.term
        rotate_left
        · obtain rfl : R = false := by rw [HR4.out, HS.out, decide_eq_false ha]; simp
          go_wp2
          refine qba (by kernel_rfl) (by kernel_rfl) ?_
          repeat (go_big_quiet_step ((go_at_call 25; refine qwa (v := .bool true) ?_; with_reducible exact EE.out _)))
          refine wpQuiet_nil ?_
          rintro _ ⟨x1, rfl⟩
          go_wp2
          go_ret
          exact ⟨rfl, hbel.trans (x1.ok.mono hbel.size)⟩
        have ha2 : decide (f.term < a) = false := decide_eq_false (by omega)
        have ha3 : (f.term < a) = False := by simp; omega
        by_cases ht : f.term ≤ tm
        rotate_left
        · have ht2 : decide (tm < f.term) = true := decide_eq_true (by omega)
          have ht3 : (tm < f.term) = True := by simp; omega
          obtain rfl : R = false := by rw [HR4.out, HS.out, decide_eq_false ht]; simp
          go_wp2
          refine qba (by kernel_rfl) (by kernel_rfl) ?_
          repeat (go_big_quiet_step ((go_at_call 25; refine qwa (v := .bool true) ?_; with_reducible exact EE.out _)))
          refine wpQuiet_nil ?_
          rintro _ ⟨x1, rfl⟩
          go_wp2
          go_ret
          exact ⟨rfl, hbel.trans (x1.ok.mono hbel.size)⟩
        have ht2 : decide (tm < f.term) = false := decide_eq_false (by omega)
        have ht3 : (tm < f.term) = False := by simp; omega
        have HX2 : Hid (qxd tm f.term (es.drop (k + 1)) = qxd tm lt es) := by show _ = _; rw [HS.out, hq, decide_eq_true ha, decide_eq_true ht]; rfl
        go_wp2
        refine qba (by kernel_rfl) (by kernel_rfl) ?_
        repeat (go_big_quiet_step ((go_at_call 25; refine qwa (v := .bool true) ?_; with_reducible exact EE.out _)))
        refine wpQuiet_nil ?_
        rintro _ ⟨x1, rfl⟩
        have y0 := q0 x1
        have y8 := q8 x1
        go_wp2
        go_roundw
        case rel => exact ⟨k + 1, f.term, by omega, by go_num, rfl, HX2, hbw.trans (x1.ok.mono (by have := hbw.size; simpa using this))⟩
        case measure => simp [intOf]; omega
      · have hkn : k = n := by omega
        subst hkn
        have HR3 : Hid (R = noneC cs da la) := by show R = _; rw [HR4.out, ← HX.out, ← Hn.out, List.drop_length]; rfl
        by_cases hm0 : m = 0
        · subst hm0
          by_cases hd : da.toList = []
          · obtain rfl : R = !la := by rw [HR3.out]; unfold noneC; rw [Hm.out, decide_eq_true hd]; rfl
            cases la
            all_goals
              go_wp2
              go_ret
              exact ⟨rfl, hbel⟩
          · obtain rfl : R = false := by rw [HR3.out]; unfold noneC; rw [decide_eq_false hd]; simp
            have h3 : (da.toList == []) = false := by cases hl : da.toList with | nil => exact absurd hl hd | cons a b => rfl
            go_wp2
            go_ret
            exact ⟨rfl, hbel⟩
        · obtain rfl : R = false := by rw [HR3.out]; unfold noneC; rw [Hm.out, decide_eq_false hm0]; rfl
          have hb : ((m : Int) == 0) = false := by simp; omega
          go_wp2
          go_ret
          exact ⟨rfl, hbel⟩
theorem qnd (kd fr up tm ix lt cm : Int) (ok : Bool) (da : ByteArray) (la : Bool) (e c : Value) (es : List En) (cs : List Int) (w : World) (he : Reads w e es) (hc : Reads w c cs) (hn : es.length ≤ 1048577) (hm : cs.length ≤ 1048577) (hz : qsc es) : Calls Tryz.prog 8 #[.agg #[.int .i64 kd, .int .i64 fr, .int .i64 up, .int .i64 tm, .int .i64 ix, .int .i64 lt, .int .i64 cm, .bool ok, e, c, .string da, .bool la]] w fun e w' => e = .returned (.bool (okM kd fr up tm ix lt cm da la es cs)) ∧ Below w.heap.size w w' := by
  obtain ⟨ao, cap, rfl, _⟩ := id he
  obtain ⟨bo, cbp, rfl, _⟩ := id hc
  rw [okM_eq]
  exact specMessageOk_try kd fr up tm ix lt cm ok da la ao bo cap cbp es cs w he hc hn hm hz

end Go.Proofs.YtpjpheicldegkaaGreatDoor
