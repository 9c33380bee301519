/-
  Whether a run is right, as the specification tells it: the walks.
-/
import Derived.Test.YtjmclcjhimcehaaGreatDoorG25
import Derived.Test.YtjmclcjhimcehaaGreatDoorG26
import Derived.Test.YtjmclcjhimcehaaGreatDoorG27
namespace Go.Proofs.YtjmclcjhimcehaaGreatDoor
open Go Go.RowKit
set_option linter.unusedVariables false

theorem inB_any (x lo hi : Int) (b : Bool) (h : decide (lo ≤ x ∧ x ≤ hi) = b) (W : World) : Calls Tryz.prog 56 #[.int .i64 x, .int .i64 lo, .int .i64 hi] W fun e w' => e = .returned (.bool b) ∧ Below W.heap.size W w' := by
  refine (in_any x lo hi W).mono fun e w' ⟨he, hw⟩ => ?_
  subst hw
  rw [← Bool.decide_and, h] at he
  exact ⟨he, Below.refl _ _⟩
set_option maxRecDepth 10000 in
set_option maxHeartbeats 8000000 in
theorem l14Run_any (ao : Option Addr) (n cap : Nat) (nm cr : ByteArray) (fr up : Int) (cu : Bool) (ts : List Ta) (ro : Option Addr) (rl rc : Nat) (rn : ByteArray) (rf ru re : Int) (st : List Sa) (w : World) (hd : DagAt w (.slice ao n cap) ⟨nm, cr, fr, up, cu, ts⟩) (hq : dagB ⟨nm, cr, fr, up, cu, ts⟩ = true) (hr : Reads w (.slice ro rl rc) st) (hl : rl ≤ 1048577) :
    Calls Tryz.prog 48 #[.agg #[.string nm, .string cr, .int .i64 fr, .int .i64 up, .bool cu, .slice ao n cap], .agg #[.string rn, .int .i64 rf, .int .i64 ru, .int .i64 re, .slice ro rl rc]] w fun e w' => e = .returned (.bool (runB ⟨nm, cr, fr, up, cu, ts⟩ ⟨rn, rf, ru, re, st⟩)) ∧ Below w.heap.size w w' := by
  have HN : Hid (ts.length = n) := by
    obtain ⟨ao', cap', e⟩ := hd.tasks.slice
    injection e with _ e2 _
    exact e2.symm
  have HRN : Hid (st.length = rl) := hr.len.symm
  have hnn : n ≤ 1048577 := by rw [← HN.out]; exact hd.few
  have HRB1 : Hid (runB ⟨nm, cr, fr, up, cu, ts⟩ ⟨rn, rf, ru, re, st⟩ = (headB ⟨nm, cr, fr, up, cu, ts⟩ ⟨rn, rf, ru, re, st⟩ && (List.range ts.length).all (okAt ts st))) := by show runB _ _ = _; unfold runB; rw [hq]; rfl
  have HTS : Hid (∀ W, Below w.heap.size w W → Tasks W (.slice ao n cap) ts) := fun W hb => hd.tasks.below hb
  have HRD : Hid (∀ W, Below w.heap.size w W → Reads W (.slice ro rl rc) st) := fun W hb => hr.below hb
  have HRG2 : Hid (Rg4 ts ∧ ∀ (k : Nat) (t : Ta), ts[k]? = some t → 0 ≤ t.ret ∧ t.ret ≤ 3) := ⟨rg_of hq, fun k t ht => ret_of hq ht⟩
  clear hd hq hr
  have NO : Hid (∀ h : ¬ (rn = nm ∧ spanB rf ru = true ∧ 0 ≤ re ∧ re ≤ 1000 ∧ rl = n), Hid (runB ⟨nm, cr, fr, up, cu, ts⟩ ⟨rn, rf, ru, re, st⟩ = false)) := fun h => by
    show runB _ _ = false
    rw [HRB1.out]
    have : headB ⟨nm, cr, fr, up, cu, ts⟩ ⟨rn, rf, ru, re, st⟩ = false := decide_eq_false fun hh => h ⟨hh.1, hh.2.1, hh.2.2.1, hh.2.2.2.1, by rw [← HRN.out, ← HN.out]; exact hh.2.2.2.2⟩
    rw [this]
    rfl
  obtain ⟨W1, hW1⟩ : ∃ W1, (w.alloc (.cells #[.string nm, .string cr, .int .i64 fr, .int .i64 up, .bool cu, .slice ao n cap] 36)).alloc (.cells #[.string rn, .int .i64 rf, .int .i64 ru, .int .i64 re, .slice ro rl rc] 31) = W1 := ⟨_, rfl⟩
  have Z1 : P6 W1 w.heap.size nm cr fr up cu (.slice ao n cap) := by rw [← hW1]; exact (P6.new _ _ _ _ _ _ _).on (ba (Below.refl _ _) _)
  have X1 : R5 W1 (w.heap.size + 1) rn rf ru re (.slice ro rl rc) := by
    rw [← hW1]
    have := R5.new (w.alloc (.cells #[.string nm, .string cr, .int .i64 fr, .int .i64 up, .bool cu, .slice ao n cap] 36)) rn rf ru re (.slice ro rl rc)
    simpa using this
  have B1 : Below w.heap.size w W1 := by rw [← hW1]; exact ba (ba (Below.refl _ _) _) _
  have c0 := Z1.c0
  have x0 := X1.c0
  have x1 := X1.c1
  have x2 := X1.c2
  by_cases h0 : rn = nm
  case neg =>
    have HE := NO.out (fun h => h0 h.1)
    have h0' := ne_list h0
    clear h0
    go_enter Tryz.func48, Tryz.ntmps48
    go_wp2
    go_ret
    exact ⟨by rw [HE.out]; rfl, B1⟩
  subst h0
  obtain ⟨p, HP⟩ : ∃ p, Hid (spanB rf ru = p) := ⟨_, rfl⟩
  have HS := l14Span_any rf ru W1
  rw [HP.out] at HS
  go_enter Tryz.func48, Tryz.ntmps48
  go_wp2_with fail
  refine HS.mono ?_
  rintro e w3 ⟨rfl, hb3⟩
  have Z3 := Z1.on hb3
  have X3 := X1.on hb3
  have B3 := Below.on B1 hb3
  clear c0 x0 x1 x2 Z1 X1 B1 hb3 HS hW1
  cases p with
  | false =>
    have HE := NO.out (fun h => by have := h.2.1; rw [HP.out] at this; cases this)
    go_wp2
    go_ret
    exact ⟨by rw [HE.out]; rfl, B3⟩
  | true =>
    have x3 := X3.c3
    by_cases h1 : 0 ≤ re ∧ re ≤ 1000
    case neg =>
      have HE := NO.out (fun h => h1 ⟨h.2.2.1, h.2.2.2.1⟩)
      have HI := inB_any re 0 1000 false (decide_eq_false h1) w3
      clear h1
      go_wp2_with fail
      refine HI.mono ?_
      rintro e w4 ⟨rfl, hb4⟩
      have B4 := Below.on B3 hb4
      clear x3
      go_wp2
      go_ret
      exact ⟨by rw [HE.out]; rfl, B4⟩
    have HI := inB_any re 0 1000 true (decide_eq_true h1) w3
    have HH1 : Hid (0 ≤ re ∧ re ≤ 1000) := h1
    clear h1
    go_wp2_with fail
    refine HI.mono ?_
    rintro e w4 ⟨rfl, hb4⟩
    have Z4 := Z3.on hb4
    have X4 := X3.on hb4
    have B4 := Below.on B3 hb4
    clear x3 Z3 X3 B3 hb4 HI
    have c5 := Z4.c5
    have x4 := X4.c4
    by_cases h3 : rl = n
    case neg =>
      have HE := NO.out (fun h => h3 h.2.2.2.2)
      have h3' : ((rl : Int) != (n : Int)) = true := bne_iff_ne.2 (by omega)
      clear h3
      go_wp2
      go_ret
      exact ⟨by rw [HE.out]; rfl, B4⟩
    subst h3
    have HALL : Hid (runB ⟨rn, cr, fr, up, cu, ts⟩ ⟨rn, rf, ru, re, st⟩ = (List.range rl).all (okAt ts st)) := by
      show runB _ _ = _
      rw [HRB1.out]
      have : headB ⟨rn, cr, fr, up, cu, ts⟩ ⟨rn, rf, ru, re, st⟩ = true := decide_eq_true ⟨rfl, HP.out, HH1.out.1, HH1.out.2, by show st.length = ts.length; rw [HRN.out, HN.out]⟩
      rw [this, HN.out]
      rfl
    clear HRB1 NO HP HH1
    go_wp2
    clear c5 x4
    go_loopw [5] (fun iv wr => ∃ k : Nat, k ≤ rl ∧ iv = .int .i64 k ∧ Hid ((List.range k).all (okAt ts st) = true) ∧ P6 wr w.heap.size rn cr fr up cu (.slice ao rl cap) ∧ R5 wr (w.heap.size + 1) rn rf ru re (.slice ro rl rc) ∧ Below w.heap.size w wr) (fun iv _ => rl - (intOf iv).toNat)
    case atStart => exact ⟨0, Nat.zero_le _, rfl, rfl, Z4, X4, B4⟩
    case round =>
      clear Z4 X4 B4
      obtain ⟨k, hk, rfl, HA, Z1, X1, B1⟩ := hrel
      have x4 := X1.c4
      by_cases hlt : k < rl
      · obtain ⟨t, ht⟩ : ∃ t, ts[k]? = some t := ⟨_, List.getElem?_eq_getElem (by rw [HN.out]; exact hlt)⟩
        obtain ⟨x, hx⟩ : ∃ x, st[k]? = some x := ⟨_, List.getElem?_eq_getElem (by rw [HRN.out]; exact hlt)⟩
        have hret := HRG2.out.2 k t ht
        have HOK : Hid (okAt ts st k = specAt ts st k) := (spec_ok ts st k).symm
        obtain ⟨b1, o1, av, e1, hb, -, -, n2, -, -, -⟩ := (HTS.out wr B1).at ht
        subst e1
        obtain ⟨bs, os, es, hbs, d0, d1, d2, d3⟩ := sa_at (HRD.out wr B1) hx
        subst es
        have HSP : Hid (specAt ts st k = (decide (0 ≤ x.is ∧ x.is ≤ 4) && (saB x t.ret && !((decide (x.is = 1) || decide (x.is = 2)) && (upsA ts (k : Int)).any (undoneB st) || (decide (x.is = 4) && !(upsA ts (k : Int)).any (stuckB st) || decide (x.is = 0) && (upsA ts (k : Int)).any (stuckB st)))))) := by
          show specAt ts st k = _
          unfold specAt
          rw [sAt_at hx, retN_at ht]
        obtain ⟨A, HAE⟩ : ∃ A, Hid ((upsA ts (k : Int)).any (undoneB st) = A) := ⟨_, rfl⟩
        obtain ⟨S, HSE⟩ : ∃ S, Hid ((upsA ts (k : Int)).any (stuckB st) = S) := ⟨_, rfl⟩
        have HUP : Hid (∀ W, Below w.heap.size w W → Calls Tryz.prog 65 #[.agg #[.string rn, .string cr, .int .i64 fr, .int .i64 up, .bool cu, .slice (some ⟨b1, o1, none⟩) rl cap], .agg #[.string rn, .int .i64 rf, .int .i64 ru, .int .i64 re, .slice (some ⟨bs, os, none⟩) rl rc], .int .i64 k] W fun e w' => e = .returned (.tuple #[.bool (!A), .bool S]) ∧ Below W.heap.size W w') := fun W hb => by
          have := l14Ups_any (some ⟨b1, o1, none⟩) rl cap rn cr fr up cu ts (some ⟨bs, os, none⟩) rl rc rn rf ru re st k W (HTS.out W hb) HRG2.out.1 hlt (HRD.out W hb) rfl
          rw [HAE.out, HSE.out] at this
          exact this
        rw [HSP.out, HAE.out, HSE.out] at HOK
        clear ht hx HSP HAE HSE
        obtain ⟨nn, np, nr, npa, naf⟩ := t
        obtain ⟨is, tr, tk, tl⟩ := x
        replace n2 : wr.cell? ⟨b1, o1 + k * 5 + 2, none⟩ = some (.int .i64 nr) := n2
        replace d0 : wr.cell? ⟨bs, os + k * 4, none⟩ = some (.int .i64 is) := d0
        replace d1 : wr.cell? ⟨bs, os + k * 4 + 1, none⟩ = some (.int .i64 tr) := d1
        replace d2 : wr.cell? ⟨bs, os + k * 4 + 2, none⟩ = some (.int .i64 tk) := d2
        replace d3 : wr.cell? ⟨bs, os + k * 4 + 3, none⟩ = some (.int .i64 tl) := d3
        replace hret : 0 ≤ nr ∧ nr ≤ 3 := hret
        replace HOK : Hid (okAt ts st k = (decide (0 ≤ is ∧ is ≤ 4) && (decide (0 ≤ tr ∧ tr ≤ nr + 1 ∧ 0 ≤ tk ∧ tk ≤ 1000000000 ∧ (0 < tk ↔ is = 1) ∧ 0 ≤ tl ∧ tl ≤ 68374179) && !((decide (is = 1) || decide (is = 2)) && A || (decide (is = 4) && !S || decide (is = 0) && S))))) := HOK
        obtain ⟨W2, hW2⟩ : ∃ W, wr.alloc (.cells #[.int .i64 is, .int .i64 tr, .int .i64 tk, .int .i64 tl] 85) = W := ⟨_, rfl⟩
        have B12 : Below wr.heap.size wr W2 := by rw [← hW2]; exact ba (Below.refl _ _) _
        have T2 : S4 W2 wr.heap.size is tr tk tl := by rw [← hW2]; exact S4.new _ _ _ _ _
        have Z2 := Z1.on B12
        have X2 := X1.on B12
        have B2 := Below.on B1 B12
        have hbb := Nat.lt_of_lt_of_le hb B12.size
        have g2 := (B12.cell (p := ⟨b1, o1 + k * 5 + 2, none⟩) hb).trans n2
        have hw1 : IntKind.i64.wrap (nr + 1) = nr + 1 := by rw [IntKind.wrap_i64]; omega
        go_wp2_with fail
        clear d0 d1 d2 d3 n2 hW2 Z1 X1 B1 B12 x4
        have q5 := Wd.cell Z2.c5
        have p0 := Wd.cell T2.c0
        have p1 := Wd.cell T2.c1
        have p2 := Wd.cell T2.c2
        have p3 := Wd.cell T2.c3
        have r2 := Wd.cell g2
        by_cases h0 : 0 ≤ is ∧ is ≤ 4
        case neg =>
          have I0 : Hid (∀ W, Calls Tryz.prog 56 #[.int .i64 is, .int .i64 0, .int .i64 4] W fun e w' => e = .returned (.bool false) ∧ Below W.heap.size W w') := fun W => inB_any is 0 4 false (decide_eq_false h0) W
          have HE : Hid (runB ⟨rn, cr, fr, up, cu, ts⟩ ⟨rn, rf, ru, re, st⟩ = false) := HALL.out.trans (range_all_no hlt (by rw [HOK.out, decide_eq_false (p := 0 ≤ is ∧ is ≤ 4) h0]; rfl))
          clear HOK HALL
          refine wp_region_wd (by kernel_rfl) (by kernel_rfl) ?_
          repeat (go_big_quiet_step ((go_at_call 56; first | (refine calls_wd (v := .bool false) ?_; with_reducible exact I0.out _))))
          refine wpQuiet_nil ?_
          rintro _ ⟨y, rfl⟩
          have B3 := Below.on B2 y.ok
          go_wp2
          go_ret
          exact ⟨by rw [HE.out]; rfl, B3⟩
        have I0 : Hid (∀ W, Calls Tryz.prog 56 #[.int .i64 is, .int .i64 0, .int .i64 4] W fun e w' => e = .returned (.bool true) ∧ Below W.heap.size W w') := fun W => inB_any is 0 4 true (decide_eq_true h0) W
        by_cases h1 : 0 ≤ tr ∧ tr ≤ nr + 1
        case neg =>
          have I1 : Hid (∀ W, Calls Tryz.prog 56 #[.int .i64 tr, .int .i64 0, .int .i64 (nr + 1)] W fun e w' => e = .returned (.bool false) ∧ Below W.heap.size W w') := fun W => inB_any tr 0 (nr + 1) false (decide_eq_false h1) W
          have HE : Hid (runB ⟨rn, cr, fr, up, cu, ts⟩ ⟨rn, rf, ru, re, st⟩ = false) := HALL.out.trans (range_all_no hlt (by rw [HOK.out, decide_eq_false (p := 0 ≤ tr ∧ tr ≤ nr + 1 ∧ 0 ≤ tk ∧ tk ≤ 1000000000 ∧ (0 < tk ↔ is = 1) ∧ 0 ≤ tl ∧ tl ≤ 68374179) (fun h => h1 ⟨h.1, h.2.1⟩)]; simp))
          clear HOK HALL
          refine wp_region_wd (by kernel_rfl) (by kernel_rfl) ?_
          repeat (go_big_quiet_step ((go_at_call 56; first | (refine calls_wd (v := .bool true) ?_; with_reducible exact I0.out _) | (refine calls_wd (v := .bool false) ?_; with_reducible exact I1.out _))))
          refine wpQuiet_nil ?_
          rintro _ ⟨y, rfl⟩
          have B3 := Below.on B2 y.ok
          go_wp2
          go_ret
          exact ⟨by rw [HE.out]; rfl, B3⟩
        have I1 : Hid (∀ W, Calls Tryz.prog 56 #[.int .i64 tr, .int .i64 0, .int .i64 (nr + 1)] W fun e w' => e = .returned (.bool true) ∧ Below W.heap.size W w') := fun W => inB_any tr 0 (nr + 1) true (decide_eq_true h1) W
        by_cases h2 : 0 ≤ tk ∧ tk ≤ 1000000000
        case neg =>
          have I2 : Hid (∀ W, Calls Tryz.prog 56 #[.int .i64 tk, .int .i64 0, .int .i64 1000000000] W fun e w' => e = .returned (.bool false) ∧ Below W.heap.size W w') := fun W => inB_any tk 0 1000000000 false (decide_eq_false h2) W
          have HE : Hid (runB ⟨rn, cr, fr, up, cu, ts⟩ ⟨rn, rf, ru, re, st⟩ = false) := HALL.out.trans (range_all_no hlt (by rw [HOK.out, decide_eq_false (p := 0 ≤ tr ∧ tr ≤ nr + 1 ∧ 0 ≤ tk ∧ tk ≤ 1000000000 ∧ (0 < tk ↔ is = 1) ∧ 0 ≤ tl ∧ tl ≤ 68374179) (fun h => h2 ⟨h.2.2.1, h.2.2.2.1⟩)]; simp))
          clear HOK HALL
          refine wp_region_wd (by kernel_rfl) (by kernel_rfl) ?_
          repeat (go_big_quiet_step ((go_at_call 56; first | (refine calls_wd (v := .bool true) ?_; with_reducible exact I0.out _) | (refine calls_wd (v := .bool true) ?_; with_reducible exact I1.out _) | (refine calls_wd (v := .bool false) ?_; with_reducible exact I2.out _))))
          refine wpQuiet_nil ?_
          rintro _ ⟨y, rfl⟩
          have B3 := Below.on B2 y.ok
          go_wp2
          go_ret
          exact ⟨by rw [HE.out]; rfl, B3⟩
        have I2 : Hid (∀ W, Calls Tryz.prog 56 #[.int .i64 tk, .int .i64 0, .int .i64 1000000000] W fun e w' => e = .returned (.bool true) ∧ Below W.heap.size W w') := fun W => inB_any tk 0 1000000000 true (decide_eq_true h2) W
        by_cases h6 : 0 < tk ↔ is = 1
        case neg =>
          by_cases h7 : 0 < tk
          · have h7' : decide (0 < tk) = true := decide_eq_true h7
            have h8 : (is == 1) = false := beq_eq_false_iff_ne.2 (by omega)
            have HE : Hid (runB ⟨rn, cr, fr, up, cu, ts⟩ ⟨rn, rf, ru, re, st⟩ = false) := HALL.out.trans (range_all_no hlt (by rw [HOK.out, decide_eq_false (p := 0 ≤ tr ∧ tr ≤ nr + 1 ∧ 0 ≤ tk ∧ tk ≤ 1000000000 ∧ (0 < tk ↔ is = 1) ∧ 0 ≤ tl ∧ tl ≤ 68374179) (fun h => h6 h.2.2.2.2.1)]; simp))
            clear HOK HALL
            refine wp_region_wd (by kernel_rfl) (by kernel_rfl) ?_
            repeat (go_big_quiet_step ((go_at_call 56; first | (refine calls_wd (v := .bool true) ?_; with_reducible exact I0.out _) | (refine calls_wd (v := .bool true) ?_; with_reducible exact I1.out _) | (refine calls_wd (v := .bool true) ?_; with_reducible exact I2.out _))))
            refine wpQuiet_nil ?_
            rintro _ ⟨y, rfl⟩
            have B3 := Below.on B2 y.ok
            go_wp2
            go_ret
            exact ⟨by rw [HE.out]; rfl, B3⟩
          · have h7' : decide (0 < tk) = false := decide_eq_false h7
            have h8 : (is == 1) = true := beq_iff_eq.2 (by omega)
            have HE : Hid (runB ⟨rn, cr, fr, up, cu, ts⟩ ⟨rn, rf, ru, re, st⟩ = false) := HALL.out.trans (range_all_no hlt (by rw [HOK.out, decide_eq_false (p := 0 ≤ tr ∧ tr ≤ nr + 1 ∧ 0 ≤ tk ∧ tk ≤ 1000000000 ∧ (0 < tk ↔ is = 1) ∧ 0 ≤ tl ∧ tl ≤ 68374179) (fun h => h6 h.2.2.2.2.1)]; simp))
            clear HOK HALL
            refine wp_region_wd (by kernel_rfl) (by kernel_rfl) ?_
            repeat (go_big_quiet_step ((go_at_call 56; first | (refine calls_wd (v := .bool true) ?_; with_reducible exact I0.out _) | (refine calls_wd (v := .bool true) ?_; with_reducible exact I1.out _) | (refine calls_wd (v := .bool true) ?_; with_reducible exact I2.out _))))
            refine wpQuiet_nil ?_
            rintro _ ⟨y, rfl⟩
            have B3 := Below.on B2 y.ok
            go_wp2
            go_ret
            exact ⟨by rw [HE.out]; rfl, B3⟩
        by_cases h3 : 0 ≤ tl ∧ tl ≤ 68374179
        case neg =>
          have I3 : Hid (∀ W, Calls Tryz.prog 56 #[.int .i64 tl, .int .i64 0, .int .i64 68374179] W fun e w' => e = .returned (.bool false) ∧ Below W.heap.size W w') := fun W => inB_any tl 0 68374179 false (decide_eq_false h3) W
          by_cases h7 : 0 < tk
          · have h7' : decide (0 < tk) = true := decide_eq_true h7
            have h8 : (is == 1) = true := beq_iff_eq.2 (by omega)
            have HE : Hid (runB ⟨rn, cr, fr, up, cu, ts⟩ ⟨rn, rf, ru, re, st⟩ = false) := HALL.out.trans (range_all_no hlt (by rw [HOK.out, decide_eq_false (p := 0 ≤ tr ∧ tr ≤ nr + 1 ∧ 0 ≤ tk ∧ tk ≤ 1000000000 ∧ (0 < tk ↔ is = 1) ∧ 0 ≤ tl ∧ tl ≤ 68374179) (fun h => h3 h.2.2.2.2.2)]; simp))
            clear HOK HALL h6 h7 h3 h0 h1 h2
            refine wp_region_wd (by kernel_rfl) (by kernel_rfl) ?_
            repeat (go_big_quiet_step ((go_at_call 56; first | (refine calls_wd (v := .bool true) ?_; with_reducible exact I0.out _) | (refine calls_wd (v := .bool true) ?_; with_reducible exact I1.out _) | (refine calls_wd (v := .bool true) ?_; with_reducible exact I2.out _) | (refine calls_wd (v := .bool false) ?_; with_reducible exact I3.out _))))
            refine wpQuiet_nil ?_
            rintro _ ⟨y, rfl⟩
            have B3 := Below.on B2 y.ok
            go_wp2
            go_ret
            exact ⟨by rw [HE.out]; rfl, B3⟩
          · have h7' : decide (0 < tk) = false := decide_eq_false h7
            have h8 : (is == 1) = false := beq_eq_false_iff_ne.2 (by omega)
            have HE : Hid (runB ⟨rn, cr, fr, up, cu, ts⟩ ⟨rn, rf, ru, re, st⟩ = false) := HALL.out.trans (range_all_no hlt (by rw [HOK.out, decide_eq_false (p := 0 ≤ tr ∧ tr ≤ nr + 1 ∧ 0 ≤ tk ∧ tk ≤ 1000000000 ∧ (0 < tk ↔ is = 1) ∧ 0 ≤ tl ∧ tl ≤ 68374179) (fun h => h3 h.2.2.2.2.2)]; simp))
            clear HOK HALL h6 h7 h3 h0 h1 h2
            refine wp_region_wd (by kernel_rfl) (by kernel_rfl) ?_
            repeat (go_big_quiet_step ((go_at_call 56; first | (refine calls_wd (v := .bool true) ?_; with_reducible exact I0.out _) | (refine calls_wd (v := .bool true) ?_; with_reducible exact I1.out _) | (refine calls_wd (v := .bool true) ?_; with_reducible exact I2.out _) | (refine calls_wd (v := .bool false) ?_; with_reducible exact I3.out _))))
            refine wpQuiet_nil ?_
            rintro _ ⟨y, rfl⟩
            have B3 := Below.on B2 y.ok
            go_wp2
            go_ret
            exact ⟨by rw [HE.out]; rfl, B3⟩
        have I3 : Hid (∀ W, Calls Tryz.prog 56 #[.int .i64 tl, .int .i64 0, .int .i64 68374179] W fun e w' => e = .returned (.bool true) ∧ Below W.heap.size W w') := fun W => inB_any tl 0 68374179 true (decide_eq_true h3) W
        have HOK2 : Hid (okAt ts st k = !((decide (is = 1) || decide (is = 2)) && A || (decide (is = 4) && !S || decide (is = 0) && S))) := by
          show okAt ts st k = _
          rw [HOK.out, decide_eq_true h0, decide_eq_true (p := 0 ≤ tr ∧ tr ≤ nr + 1 ∧ 0 ≤ tk ∧ tk ≤ 1000000000 ∧ (0 < tk ↔ is = 1) ∧ 0 ≤ tl ∧ tl ≤ 68374179) ⟨h1.1, h1.2, h2.1, h2.2, h6, h3.1, h3.2⟩]
          rfl
        clear HOK
        obtain ⟨e7, hh7, hh8⟩ : ∃ e7 : Bool, decide (0 < tk) = e7 ∧ (is == 1) = e7 := by
          by_cases h7 : 0 < tk
          · exact ⟨true, decide_eq_true h7, beq_iff_eq.2 (h6.1 h7)⟩
          · exact ⟨false, decide_eq_false h7, beq_eq_false_iff_ne.2 fun h => h7 (h6.2 h)⟩
        have HIS : Hid (is = 0 ∨ is = 1 ∨ is = 2 ∨ is = 3 ∨ is = 4) := by show is = 0 ∨ is = 1 ∨ is = 2 ∨ is = 3 ∨ is = 4; omega
        clear h0 h1 h2 h3 h6
        cases e7 <;> (refine wp_region_wd (by kernel_rfl) (by kernel_rfl) ?_; (repeat (go_big_quiet_step ((go_at_call 56; first | (refine calls_wd (v := .bool true) ?_; with_reducible exact I0.out _) | (refine calls_wd (v := .bool true) ?_; with_reducible exact I1.out _) | (refine calls_wd (v := .bool true) ?_; with_reducible exact I2.out _) | (refine calls_wd (v := .bool true) ?_; with_reducible exact I3.out _))))); refine wpQuiet_nil ?_; rintro _ ⟨y, rfl⟩)
        all_goals (have Z3 := Z2.on y.ok; have X3 := X2.on y.ok; have T3 := T2.on y.ok; have B3 := Below.on B2 y.ok)
        all_goals (obtain ⟨V, hV⟩ : ∃ V, y.at' = V := ⟨_, rfl⟩; rw [hV] at Z3 X3 T3 B3; rw [hV]; clear hV y Z2 X2 T2 B2 q5 p0 p1 p2 p3 r2 g2)
        all_goals (have a0 := Z3.c0; have a1 := Z3.c1; have a2 := Z3.c2; have a3 := Z3.c3; have a4 := Z3.c4; have a5 := Z3.c5; have z0 := X3.c0; have z1 := X3.c1; have z2 := X3.c2; have z3 := X3.c3; have z4 := X3.c4)
        all_goals (go_wp2_with fail)
        all_goals (refine (HUP.out _ B3).mono ?_; rintro e w6 ⟨rfl, hb6⟩; have Z4 := Z3.on hb6; have X4 := X3.on hb6; have T4 := T3.on hb6; have B4 := Below.on B3 hb6)
        all_goals (clear a0 a1 a2 a3 a4 a5 z0 z1 z2 z3 z4 Z3 X3 T3 B3 hb6; have t0 := T4.c0; have HIS2 := HIS.out; clear HIS I0 I1 I2 I3 HUP)
        all_goals (rcases HIS2 with h | h | h | h | h <;> (first | (exfalso; subst h; revert hh8; decide) | (subst h; clear hh7 hh8)))
        all_goals (cases A <;> cases S)
        all_goals (have HOK3 := HOK2.out; first | (have HE : Hid (runB ⟨rn, cr, fr, up, cu, ts⟩ ⟨rn, rf, ru, re, st⟩ = false) := HALL.out.trans (range_all_no hlt HOK3); clear HOK2 HOK3 HALL; go_wp2; go_ret; exact ⟨by rw [HE.out]; rfl, B4⟩) | (have HA2 : Hid ((List.range (k + 1)).all (okAt ts st) = true) := (by show _ = true; rw [range_all_succ, HA.out, HOK3]; rfl); clear HA HOK2 HOK3; go_wp2; go_roundw; (case rel => exact ⟨k + 1, by omega, by go_num, HA2, Z4, X4, B4⟩); (case measure => simp [intOf]; omega)))
      · have HE : Hid (runB ⟨rn, cr, fr, up, cu, ts⟩ ⟨rn, rf, ru, re, st⟩ = true) := by
          have e : k = rl := by omega
          show runB _ _ = true
          rw [HALL.out, ← e]
          exact HA.out
        go_wp2
        go_ret
        exact ⟨by rw [HE.out]; rfl, B1⟩
set_option maxRecDepth 10000 in
set_option maxHeartbeats 4000000 in
theorem specRunOk_any (ao : Option Addr) (n cap : Nat) (nm cr : ByteArray) (fr up : Int) (cu : Bool) (ts : List Ta) (ro : Option Addr) (rl rc : Nat) (rn : ByteArray) (rf ru re : Int) (st : List Sa) (w : World) (hd : DagAt w (.slice ao n cap) ⟨nm, cr, fr, up, cu, ts⟩) (hr : Reads w (.slice ro rl rc) st) (hl : rl ≤ 1048577) :
    Calls Tryz.prog 20 #[.agg #[.string nm, .string cr, .int .i64 fr, .int .i64 up, .bool cu, .slice ao n cap], .agg #[.string rn, .int .i64 rf, .int .i64 ru, .int .i64 re, .slice ro rl rc]] w fun e w' => e = .returned (.bool (runB ⟨nm, cr, fr, up, cu, ts⟩ ⟨rn, rf, ru, re, st⟩)) ∧ Below w.heap.size w w' := by
  obtain ⟨q, HQ⟩ : ∃ q, Hid (dagB ⟨nm, cr, fr, up, cu, ts⟩ = q) := ⟨_, rfl⟩
  have HD : Hid (∀ W, Below w.heap.size w W → Calls Tryz.prog 35 #[.agg #[.string nm, .string cr, .int .i64 fr, .int .i64 up, .bool cu, .slice ao n cap]] W fun e w' => e = .returned (.bool q) ∧ Below W.heap.size W w') := fun W hb => by
    have := dagOk_try _ nm cr fr up cu ts W (hd.below hb)
    rw [HQ.out] at this
    exact this
  have HR : Hid (q = true → ∀ W, Below w.heap.size w W → Calls Tryz.prog 48 #[.agg #[.string nm, .string cr, .int .i64 fr, .int .i64 up, .bool cu, .slice ao n cap], .agg #[.string rn, .int .i64 rf, .int .i64 ru, .int .i64 re, .slice ro rl rc]] W fun e w' => e = .returned (.bool (runB ⟨nm, cr, fr, up, cu, ts⟩ ⟨rn, rf, ru, re, st⟩)) ∧ Below W.heap.size W w') := fun h W hb => l14Run_any ao n cap nm cr fr up cu ts ro rl rc rn rf ru re st W (hd.below hb) (HQ.out.trans h) (hr.below hb) hl
  have HRB : Hid (q = false → runB ⟨nm, cr, fr, up, cu, ts⟩ ⟨rn, rf, ru, re, st⟩ = false) := fun h => by unfold runB; rw [HQ.out, h]; rfl
  clear hd hr HQ
  obtain ⟨W1, hW1⟩ : ∃ W1, (w.alloc (.cells #[.string nm, .string cr, .int .i64 fr, .int .i64 up, .bool cu, .slice ao n cap] 36)).alloc (.cells #[.string rn, .int .i64 rf, .int .i64 ru, .int .i64 re, .slice ro rl rc] 31) = W1 := ⟨_, rfl⟩
  have Z1 : P6 W1 w.heap.size nm cr fr up cu (.slice ao n cap) := by rw [← hW1]; exact (P6.new _ _ _ _ _ _ _).on (ba (Below.refl _ _) _)
  have X1 : R5 W1 (w.heap.size + 1) rn rf ru re (.slice ro rl rc) := by
    rw [← hW1]
    have := R5.new (w.alloc (.cells #[.string nm, .string cr, .int .i64 fr, .int .i64 up, .bool cu, .slice ao n cap] 36)) rn rf ru re (.slice ro rl rc)
    simpa using this
  have B1 : Below w.heap.size w W1 := by rw [← hW1]; exact ba (ba (Below.refl _ _) _) _
  have c0 := Z1.c0
  have c1 := Z1.c1
  have c2 := Z1.c2
  have c3 := Z1.c3
  have c4 := Z1.c4
  have c5 := Z1.c5
  go_enter Tryz.func20, Tryz.ntmps20
  go_wp2_with fail
  refine (HD.out _ B1).mono ?_
  rintro e w2 ⟨rfl, hb2⟩
  have Z2 := Z1.on hb2
  have X2 := X1.on hb2
  have B2 := Below.on B1 hb2
  clear c0 c1 c2 c3 c4 c5 Z1 X1 B1 hb2 HD hW1
  cases q with
  | false =>
    have HE := HRB.out rfl
    have HE2 : Hid (runB ⟨nm, cr, fr, up, cu, ts⟩ ⟨rn, rf, ru, re, st⟩ = false) := HE
    clear HE
    go_wp2
    go_ret
    exact ⟨by rw [HE2.out]; rfl, B2⟩
  | true =>
    have HR2 : Hid (∀ W, Below w.heap.size w W → Calls Tryz.prog 48 #[.agg #[.string nm, .string cr, .int .i64 fr, .int .i64 up, .bool cu, .slice ao n cap], .agg #[.string rn, .int .i64 rf, .int .i64 ru, .int .i64 re, .slice ro rl rc]] W fun e w' => e = .returned (.bool (runB ⟨nm, cr, fr, up, cu, ts⟩ ⟨rn, rf, ru, re, st⟩)) ∧ Below W.heap.size W w') := HR.out rfl
    clear HR HRB
    have c0 := Z2.c0
    have c1 := Z2.c1
    have c2 := Z2.c2
    have c3 := Z2.c3
    have c4 := Z2.c4
    have c5 := Z2.c5
    have x0 := X2.c0
    have x1 := X2.c1
    have x2 := X2.c2
    have x3 := X2.c3
    have x4 := X2.c4
    go_wp2_with fail
    refine (HR2.out _ B2).mono ?_
    rintro e w3 ⟨rfl, hb3⟩
    have B3 := Below.on B2 hb3
    go_wp2
    go_ret
    exact ⟨rfl, B3⟩
end Go.Proofs.YtjmclcjhimcehaaGreatDoor
