/-
  Whether a run is right, as the program tells it: the walk. A state's block of four cells.
-/
import Derived.Test.YtjmclcjhimcehaaGreatDoorG25
import Derived.Test.YtjmclcjhimcehaaGreatDoorG26
import Derived.Test.YtjmclcjhimcehaaGreatDoorGn
namespace Go.Proofs.YtjmclcjhimcehaaGreatDoor
open Go Go.RowKit
set_option linter.unusedVariables false

theorem P5.name {w : World} {v : Value} {ts : List Ta} (hr : Tasks w v ts) : ∃ ao cap, v = .slice ao ts.length cap := hr.slice
/-- The places that a task of a right plan is after, as the program tells them. -/
theorem upsR_any (ao : Option Addr) (n cap : Nat) (nm cr : ByteArray) (fr up : Int) (cu : Bool) (ts : List Ta) (i : Nat) (w : World) (hd : DagI w ao n cap ⟨nm, cr, fr, up, cu, ts⟩) (hrg : Rg4 ts) (hi : i < n) :
    Calls Tryz.prog 54 #[.agg #[.string nm, .string cr, .int .i64 fr, .int .i64 up, .bool cu, .slice ao n cap], .int .i64 i] w fun e w' => ∃ (va : Option Addr) (vc : Nat), e = .returned (.slice va (upsA ts (i : Int)).length vc) ∧ ownsR w' w.heap.size 3 (.slice va (upsA ts (i : Int)).length vc) (upsA ts (i : Int)) ∧ Below w.heap.size w w' := by
  have hn : ts.length = n := by
    obtain ⟨ao', cap', e⟩ := hd.tasks.slice
    injection e with _ e2 _
    exact e2.symm
  obtain ⟨t, ht⟩ : ∃ t, ts[i]? = some t := ⟨_, List.getElem?_eq_getElem (by rw [hn]; exact hi)⟩
  have h2 := upsIn_any ao n cap nm cr fr up cu ts i t w hd.tasks hd.few ht (hd.small t (List.mem_of_getElem? ht)).few
  rw [ups_sort hrg (t := t) (List.mem_of_getElem? ht)] at h2
  have e4 : upsA ts (i : Int) = upsC ts t.after := by
    unfold upsA
    rw [af_at ht]
  rw [← e4] at h2
  refine h2.mono fun e w' ⟨v, he, ho, hb⟩ => ?_
  obtain ⟨va, vc, ev⟩ := ho.slice
  subst ev
  exact ⟨va, vc, he, ho, hb⟩
set_option maxRecDepth 10000 in
set_option maxHeartbeats 8000000 in
theorem implRight_any (ao : Option Addr) (n cap : Nat) (nm cr : ByteArray) (fr up : Int) (cu : Bool) (ts : List Ta) (ro : Option Addr) (rl rc : Nat) (rn : ByteArray) (rf ru re : Int) (st : List Sa) (w : World) (hd : DagI w ao n cap ⟨nm, cr, fr, up, cu, ts⟩) (hq : dagB ⟨nm, cr, fr, up, cu, ts⟩ = true) (hr : Reads w (.slice ro rl rc) st) (hl : rl ≤ 1048577) :
    Calls Tryz.prog 50 #[.agg #[.string rn, .int .i64 rf, .int .i64 ru, .int .i64 re, .slice ro rl rc], .agg #[.string nm, .string cr, .int .i64 fr, .int .i64 up, .bool cu, .slice ao n cap]] w fun e w' => e = .returned (.bool (runB ⟨nm, cr, fr, up, cu, ts⟩ ⟨rn, rf, ru, re, st⟩)) ∧ Below w.heap.size w w' := by
  have HN : Hid (ts.length = n) := by
    obtain ⟨ao', cap', e⟩ := hd.tasks.slice
    injection e with _ e2 _
    exact e2.symm
  have HRN : Hid (st.length = rl) := hr.len.symm
  have hnn : n ≤ 1048577 := hd.few
  have HRB1 : Hid (runB ⟨nm, cr, fr, up, cu, ts⟩ ⟨rn, rf, ru, re, st⟩ = (headB ⟨nm, cr, fr, up, cu, ts⟩ ⟨rn, rf, ru, re, st⟩ && (List.range ts.length).all (okAt ts st))) := by show runB _ _ = _; unfold runB; rw [hq]; rfl
  have HRG2 : Hid (Rg4 ts ∧ ∀ (k : Nat) (t : Ta), ts[k]? = some t → 0 ≤ t.ret ∧ t.ret ≤ 3) := ⟨rg_of hq, fun k t ht => ret_of hq ht⟩
  have HDI : Hid (∀ W, Below w.heap.size w W → DagI W ao n cap ⟨nm, cr, fr, up, cu, ts⟩) := fun W hb => hd.below hb
  have HRD : Hid (∀ W, Below w.heap.size w W → Reads W (.slice ro rl rc) st) := fun W hb => hr.below hb
  clear hd hr hq
  obtain ⟨W1, hW1⟩ : ∃ W1, (w.alloc (.cells #[.string rn, .int .i64 rf, .int .i64 ru, .int .i64 re, .slice ro rl rc] 31)).alloc (.cells #[.string nm, .string cr, .int .i64 fr, .int .i64 up, .bool cu, .slice ao n cap] 36) = W1 := ⟨_, rfl⟩
  have X2 : R5 W1 w.heap.size rn rf ru re (.slice ro rl rc) := by rw [← hW1]; exact (R5.new _ _ _ _ _ _).on (ba (Below.refl _ _) _)
  have Z2 : P6 W1 (w.heap.size + 1) nm cr fr up cu (.slice ao n cap) := by
    rw [← hW1]
    have := P6.new (w.alloc (.cells #[.string rn, .int .i64 rf, .int .i64 ru, .int .i64 re, .slice ro rl rc] 31)) nm cr fr up cu (.slice ao n cap)
    simpa using this
  have B2 : Below w.heap.size w W1 := by rw [← hW1]; exact ba (ba (Below.refl _ _) _) _
  go_enter Tryz.func50, Tryz.ntmps50
  have no : ∀ h : ¬ (rn = nm ∧ spanB rf ru = true ∧ 0 ≤ re ∧ re ≤ 1000 ∧ rl = n), Hid (runB ⟨nm, cr, fr, up, cu, ts⟩ ⟨rn, rf, ru, re, st⟩ = false) := fun h => by
    show runB _ _ = false
    rw [HRB1.out]
    have : headB ⟨nm, cr, fr, up, cu, ts⟩ ⟨rn, rf, ru, re, st⟩ = false := decide_eq_false fun hh => h ⟨hh.1, hh.2.1, hh.2.2.1, hh.2.2.2.1, by rw [← HRN.out, ← HN.out]; exact hh.2.2.2.2⟩
    rw [this]
    rfl
  have NO : Hid (∀ h : ¬ (rn = nm ∧ spanB rf ru = true ∧ 0 ≤ re ∧ re ≤ 1000 ∧ rl = n), Hid (runB ⟨nm, cr, fr, up, cu, ts⟩ ⟨rn, rf, ru, re, st⟩ = false)) := no
  clear no
  have c0 := Z2.c0
  have c5 := Z2.c5
  have x0 := X2.c0
  have x1 := X2.c1
  have x2 := X2.c2
  by_cases h0 : rn = nm
  case neg =>
    have HE := NO.out (fun h => h0 h.1)
    have h0' := ne_list h0
    clear h0
    go_wp2
    go_ret
    exact ⟨by rw [HE.out]; rfl, B2⟩
  subst h0
  obtain ⟨p, HP⟩ : ∃ p, Hid (spanB rf ru = p) := ⟨_, rfl⟩
  have HS := isRunSpan_any rf ru W1
  rw [HP.out] at HS
  go_wp2_with fail
  refine HS.mono ?_
  rintro e w3 ⟨rfl, hb3⟩
  have Z3 := Z2.on hb3
  have X3 := X2.on hb3
  have B3 := Below.on B2 hb3
  clear c0 c5 x0 x1 x2 Z2 X2 B2 hb3 HS hW1
  cases p with
  | false =>
    have HE := NO.out (fun h => by have := h.2.1; rw [HP.out] at this; cases this)
    go_wp2
    go_ret
    exact ⟨by rw [HE.out]; rfl, B3⟩
  | true =>
    have c5 := Z3.c5
    have x3 := X3.c3
    have x4 := X3.c4
    by_cases h1 : re < 0
    · have HE := NO.out (fun h => by omega)
      go_wp2
      go_ret
      exact ⟨by rw [HE.out]; rfl, B3⟩
    by_cases h2 : (1000 : Int) < re
    · have HE := NO.out (fun h => by omega)
      go_wp2
      go_ret
      exact ⟨by rw [HE.out]; rfl, B3⟩
    by_cases h3 : rl = n
    case neg =>
      have HE := NO.out (fun h => h3 h.2.2.2.2)
      have h3' : ((rl : Int) != (n : Int)) = true := bne_iff_ne.2 (by omega)
      clear h3
      go_wp2
      go_ret
      exact ⟨by rw [HE.out]; rfl, B3⟩
    subst h3
    have HALL : Hid (runB ⟨rn, cr, fr, up, cu, ts⟩ ⟨rn, rf, ru, re, st⟩ = (List.range rl).all (okAt ts st)) := by
      show runB _ _ = _
      rw [HRB1.out]
      have : headB ⟨rn, cr, fr, up, cu, ts⟩ ⟨rn, rf, ru, re, st⟩ = true := decide_eq_true ⟨rfl, HP.out, by show 0 ≤ re; omega, by show re ≤ 1000; omega, by show st.length = ts.length; rw [HRN.out, HN.out]⟩
      rw [this, HN.out]
      rfl
    clear HRB1 NO HP
    go_wp2
    clear c5 x3 x4 h1 h2
    go_loopw [40] (fun iv wr => ∃ k : Nat, k ≤ rl ∧ iv = .int .i64 k ∧ Hid ((List.range k).all (okAt ts st) = true) ∧ P6 wr (w.heap.size + 1) rn cr fr up cu (.slice ao rl cap) ∧ R5 wr w.heap.size rn rf ru re (.slice ro rl rc) ∧ Below w.heap.size w wr) (fun iv _ => rl - (intOf iv).toNat)
    case atStart => exact ⟨0, Nat.zero_le _, rfl, rfl, Z3, X3, B3⟩
    case round =>
      clear Z3 X3 B3
      obtain ⟨k, hk, rfl, HA, Z1, X1, B1⟩ := hrel
      by_cases hlt : k < rl
      · obtain ⟨t, ht⟩ : ∃ t, ts[k]? = some t := ⟨_, List.getElem?_eq_getElem (by rw [HN.out]; exact hlt)⟩
        obtain ⟨x, hx⟩ : ∃ x, st[k]? = some x := ⟨_, List.getElem?_eq_getElem (by rw [HRN.out]; exact hlt)⟩
        have hret := HRG2.out.2 k t ht
        have HOK : Hid (okAt ts st k = (saB x t.ret && standB st (upsA ts (k : Int)) x.is)) := by show okAt ts st k = _; unfold okAt; rw [sAt_at hx, retN_at ht]
        obtain ⟨b1, o1, av, e1, hb, n0, n1, n2, n3, n4, hav⟩ := (HDI.out wr B1).tasks.at ht
        subst e1
        obtain ⟨fo, fc, e2, -⟩ := id hav
        subst e2
        obtain ⟨bs, os, es, hbs, d0, d1, d2, d3⟩ := sa_at (HRD.out wr B1) hx
        subst es
        have HX : Hid (st[k]? = some x) := hx
        obtain ⟨m, HM⟩ : ∃ m, Hid (t.after.length = m) := ⟨_, rfl⟩
        rw [HM.out] at n4
        have HCI : Hid (∀ W, Calls Tryz.prog 104 #[.agg #[.int .i64 x.is, .int .i64 x.tries, .int .i64 x.tok, .int .i64 x.til], .agg #[.string t.name, .string t.pool, .int .i64 t.ret, .bool t.past, .slice fo m fc]] W fun e w' => e = .returned (.bool (saB x t.ret)) ∧ Below W.heap.size W w') := fun W => stRight_any x t.name t.pool t.ret t.past fo m fc W hret.1 hret.2
        obtain ⟨W2, hW2⟩ : ∃ W, wr.alloc (.cells #[.string t.name, .string t.pool, .int .i64 t.ret, .bool t.past, .slice fo m fc] 88) = W := ⟨_, rfl⟩
        have B12 : Below wr.heap.size wr W2 := by rw [← hW2]; exact ba (Below.refl _ _) _
        have T2 : B5 88 W2 wr.heap.size (.string t.name) (.string t.pool) (.int .i64 t.ret) (.bool t.past) (.slice fo m fc) := by rw [← hW2]; exact B5.new _ _ _ _ _ _ _
        have Z2 := Z1.on B12
        have X2 := X1.on B12
        have B2 := Below.on B1 B12
        have g0 := (B12.cell (p := ⟨bs, os + k * 4, none⟩) hbs).trans d0
        have g1 := (B12.cell (p := ⟨bs, os + k * 4 + 1, none⟩) hbs).trans d1
        have g2 := (B12.cell (p := ⟨bs, os + k * 4 + 2, none⟩) hbs).trans d2
        have g3 := (B12.cell (p := ⟨bs, os + k * 4 + 3, none⟩) hbs).trans d3
        have hbs2 : bs < W2.heap.size := Nat.lt_of_lt_of_le hbs B12.size
        clear hx hret d0 d1 d2 d3 hav ht
        obtain ⟨nn, np, nr, npa, naf⟩ := t
        obtain ⟨is, tr, tk, tl⟩ := x
        dsimp only at n0 n1 n2 n3 n4 g0 g1 g2 g3 HOK HCI T2 hW2 HX HM
        go_wp2_with fail
        clear n0 n1 n2 n3 n4 hW2 Z1 X1 B1 B12
        cases hq : saB ⟨is, tr, tk, tl⟩ nr with
        | false =>
          rw [hq] at HCI HOK
          have HE : Hid (runB ⟨rn, cr, fr, up, cu, ts⟩ ⟨rn, rf, ru, re, st⟩ = false) := HALL.out.trans (range_all_no hlt HOK.out)
          have q4 := Wd.cell X2.c4
          have p0 := Wd.cell T2.c0
          have p1 := Wd.cell T2.c1
          have p2 := Wd.cell T2.c2
          have p3 := Wd.cell T2.c3
          have p4 := Wd.cell T2.c4
          have r0 := Wd.cell g0
          have r1 := Wd.cell g1
          have r2 := Wd.cell g2
          have r3 := Wd.cell g3
          clear hq HALL
          refine wp_region_wd (by kernel_rfl) (by kernel_rfl) ?_
          repeat (go_big_quiet_step ((go_at_call 104; refine calls_wd (v := .bool false) ?_; exact HCI.out _)))
          refine wpQuiet_nil ?_
          rintro _ ⟨y, rfl⟩
          have B3 := Below.on B2 y.ok
          go_wp2
          go_ret
          exact ⟨by rw [HE.out]; rfl, B3⟩
        | true =>
          rw [hq] at HCI HOK
          have HLU : Hid ((upsA ts (k : Int)).length ≤ 4) := ups_len HRG2.out.1 _
          have HU : Hid (∀ W, Below w.heap.size w W → Calls Tryz.prog 54 #[.agg #[.string rn, .string cr, .int .i64 fr, .int .i64 up, .bool cu, .slice (some ⟨b1, o1, none⟩) rl cap], .int .i64 k] W fun e w' => ∃ (va : Option Addr) (vc : Nat), e = .returned (.slice va (upsA ts (k : Int)).length vc) ∧ ownsR w' W.heap.size 3 (.slice va (upsA ts (k : Int)).length vc) (upsA ts (k : Int)) ∧ Below W.heap.size W w') := fun W hb => upsR_any _ rl cap rn cr fr up cu ts k W (HDI.out W hb) HRG2.out.1 hlt
          obtain ⟨U, HUE⟩ : ∃ U, Hid (upsA ts (k : Int) = U) := ⟨_, rfl⟩
          rw [HUE.out] at HOK HLU HU
          obtain ⟨ul, HUL⟩ : ∃ ul, Hid (U.length = ul) := ⟨_, rfl⟩
          rw [HUL.out] at HLU HU
          obtain ⟨z, HZ⟩ : ∃ z, Hid (standB st U is = z) := ⟨_, rfl⟩
          have HST : Hid (∀ (ua : Option Addr) (uc : Nat) W, Below w.heap.size w W → Reads W (.slice ua ul uc) U → Calls Tryz.prog 105 #[.agg #[.string rn, .int .i64 rf, .int .i64 ru, .int .i64 re, .slice (some ⟨bs, os, none⟩) rl rc], .slice ua ul uc, .int .i64 k] W fun e w' => e = .returned (.bool z) ∧ Below W.heap.size W w') := fun ua uc W hb hu => by
            have := stands_any ua ul uc U (some ⟨bs, os, none⟩) rl rc rn rf ru re st k ⟨is, tr, tk, tl⟩ W (HRD.out W hb) hl hu (by have := HLU.out; omega) HX.out
            have e : standB st U (Sa.is ⟨is, tr, tk, tl⟩) = z := HZ.out
            rw [e] at this
            exact this
          have HOK2 : Hid (okAt ts st k = z) := by show okAt ts st k = z; rw [HOK.out, HZ.out]; rfl
          clear hq HOK HUE HUL HZ HX HLU HM
          have a0 := Below.cellOf (B := W2.heap.size) (W := W2) (p := ⟨w.heap.size + 1, 0, none⟩) Z2.lt Z2.c0
          have a1 := Below.cellOf (B := W2.heap.size) (W := W2) (p := ⟨w.heap.size + 1, 1, none⟩) Z2.lt Z2.c1
          have a2 := Below.cellOf (B := W2.heap.size) (W := W2) (p := ⟨w.heap.size + 1, 2, none⟩) Z2.lt Z2.c2
          have a3 := Below.cellOf (B := W2.heap.size) (W := W2) (p := ⟨w.heap.size + 1, 3, none⟩) Z2.lt Z2.c3
          have a4 := Below.cellOf (B := W2.heap.size) (W := W2) (p := ⟨w.heap.size + 1, 4, none⟩) Z2.lt Z2.c4
          have a5 := Below.cellOf (B := W2.heap.size) (W := W2) (p := ⟨w.heap.size + 1, 5, none⟩) Z2.lt Z2.c5
          have x0 := Below.cellOf (B := W2.heap.size) (W := W2) (p := ⟨w.heap.size, 0, none⟩) X2.lt X2.c0
          have x1 := Below.cellOf (B := W2.heap.size) (W := W2) (p := ⟨w.heap.size, 1, none⟩) X2.lt X2.c1
          have x2 := Below.cellOf (B := W2.heap.size) (W := W2) (p := ⟨w.heap.size, 2, none⟩) X2.lt X2.c2
          have x3 := Below.cellOf (B := W2.heap.size) (W := W2) (p := ⟨w.heap.size, 3, none⟩) X2.lt X2.c3
          have x4 := Below.cellOf (B := W2.heap.size) (W := W2) (p := ⟨w.heap.size, 4, none⟩) X2.lt X2.c4
          have p0 := Below.cellOf (B := W2.heap.size) (W := W2) (p := ⟨wr.heap.size, 0, none⟩) T2.lt T2.c0
          have p1 := Below.cellOf (B := W2.heap.size) (W := W2) (p := ⟨wr.heap.size, 1, none⟩) T2.lt T2.c1
          have p2 := Below.cellOf (B := W2.heap.size) (W := W2) (p := ⟨wr.heap.size, 2, none⟩) T2.lt T2.c2
          have p3 := Below.cellOf (B := W2.heap.size) (W := W2) (p := ⟨wr.heap.size, 3, none⟩) T2.lt T2.c3
          have p4 := Below.cellOf (B := W2.heap.size) (W := W2) (p := ⟨wr.heap.size, 4, none⟩) T2.lt T2.c4
          have r0 := Below.cellOf (B := W2.heap.size) (W := W2) (p := ⟨bs, os + k * 4, none⟩) hbs2 g0
          have r1 := Below.cellOf (B := W2.heap.size) (W := W2) (p := ⟨bs, os + k * 4 + 1, none⟩) hbs2 g1
          have r2 := Below.cellOf (B := W2.heap.size) (W := W2) (p := ⟨bs, os + k * 4 + 2, none⟩) hbs2 g2
          have r3 := Below.cellOf (B := W2.heap.size) (W := W2) (p := ⟨bs, os + k * 4 + 3, none⟩) hbs2 g3
          clear g0 g1 g2 g3
          go_region_held3 (fun w' => Below W2.heap.size W2 w') ((first | exact (Below.refl _ _).drew | exact hS5 | exact hS6 | exact hS7)) ((first | (go_at_call 105; refine (HST.out _ _ _ (Below.on B2 hS6) ho6.reads).mono ?_; rintro e w7 ⟨rfl, hb7⟩; have hS7 := keep_on (B := W2.heap.size) (W := W2) hb7 hS6 (Nat.le_refl _)) | (go_at_call 54; refine (HU.out _ (Below.on B2 (by assumption))).mono ?_; rintro e w6 ⟨ua, uc, rfl, ho6, hb6⟩; have hS6 := keep_on (B := W2.heap.size) (W := W2) hb6 (by assumption) (Nat.le_refl _)) | (go_at_call 104; refine (HCI.out _).mono ?_; rintro e w5 ⟨rfl, hb5⟩; have hS5 := keep_on (B := W2.heap.size) (W := W2) hb5 (by assumption) (Nat.le_refl _))))
          have Z3 := Z2.on hS7
          have X3 := X2.on hS7
          have B3 := Below.on B2 hS7
          clear a0 a1 a2 a3 a4 a5 x0 x1 x2 x3 x4 p0 p1 p2 p3 p4 r0 r1 r2 r3 Z2 X2 B2 hb5 hS5 ho6 hb6 hS6 hb7 hS7 T2
          cases z with
          | false =>
            have HE : Hid (runB ⟨rn, cr, fr, up, cu, ts⟩ ⟨rn, rf, ru, re, st⟩ = false) := HALL.out.trans (range_all_no hlt HOK2.out)
            go_wp2
            go_ret
            exact ⟨by rw [HE.out]; rfl, B3⟩
          | true =>
            have HA2 : Hid ((List.range (k + 1)).all (okAt ts st) = true) := by show _ = true; rw [range_all_succ, HA.out, HOK2.out]; rfl
            clear HA HOK2
            go_wp2
            go_roundw
            case rel => exact ⟨k + 1, by omega, by go_num, HA2, Z3, X3, B3⟩
            case measure => simp [intOf]; omega
      · have HE : Hid (runB ⟨rn, cr, fr, up, cu, ts⟩ ⟨rn, rf, ru, re, st⟩ = true) := by
          have e : k = rl := by omega
          show runB _ _ = true
          rw [HALL.out, ← e]
          exact HA.out
        go_wp2
        go_ret
        exact ⟨by rw [HE.out]; rfl, B1⟩
set_option maxRecDepth 10000 in
set_option maxHeartbeats 4000000 in
theorem implRunOk_any (ao : Option Addr) (n cap : Nat) (nm cr : ByteArray) (fr up : Int) (cu : Bool) (ts : List Ta) (ro : Option Addr) (rl rc : Nat) (rn : ByteArray) (rf ru re : Int) (st : List Sa) (w : World) (hd : DagI w ao n cap ⟨nm, cr, fr, up, cu, ts⟩) (hg : Gl w) (hr : Reads w (.slice ro rl rc) st) (hl : rl ≤ 1048577) :
    Calls Tryz.prog 22 #[.agg #[.string nm, .string cr, .int .i64 fr, .int .i64 up, .bool cu, .slice ao n cap], .agg #[.string rn, .int .i64 rf, .int .i64 ru, .int .i64 re, .slice ro rl rc]] w fun e w' => e = .returned (.bool (runB ⟨nm, cr, fr, up, cu, ts⟩ ⟨rn, rf, ru, re, st⟩)) ∧ Below w.heap.size w w' := by
  obtain ⟨q, HQ⟩ : ∃ q, Hid (dagB ⟨nm, cr, fr, up, cu, ts⟩ = q) := ⟨_, rfl⟩
  have HD : Hid (∀ W, Below w.heap.size w W → Calls Tryz.prog 38 #[.agg #[.string nm, .string cr, .int .i64 fr, .int .i64 up, .bool cu, .slice ao n cap]] W fun e w' => e = .returned (.bool q) ∧ Below W.heap.size W w') := fun W hb => by
    have := implDagOk_any ao n cap nm cr fr up cu ts W (hd.below hb) (hg.up hb)
    rw [HQ.out] at this
    exact this
  have HR : Hid (q = true → ∀ W, Below w.heap.size w W → Calls Tryz.prog 50 #[.agg #[.string rn, .int .i64 rf, .int .i64 ru, .int .i64 re, .slice ro rl rc], .agg #[.string nm, .string cr, .int .i64 fr, .int .i64 up, .bool cu, .slice ao n cap]] W fun e w' => e = .returned (.bool (runB ⟨nm, cr, fr, up, cu, ts⟩ ⟨rn, rf, ru, re, st⟩)) ∧ Below W.heap.size W w') := fun h W hb => implRight_any ao n cap nm cr fr up cu ts ro rl rc rn rf ru re st W (hd.below hb) (HQ.out.trans h) (hr.below hb) hl
  have HNO : Hid (q = false → runB ⟨nm, cr, fr, up, cu, ts⟩ ⟨rn, rf, ru, re, st⟩ = false) := fun h => by unfold runB; rw [HQ.out, h]; rfl
  clear hd hg hr HQ
  obtain ⟨W1, hW1⟩ : ∃ W1, (w.alloc (.cells #[.string nm, .string cr, .int .i64 fr, .int .i64 up, .bool cu, .slice ao n cap] 36)).alloc (.cells #[.string rn, .int .i64 rf, .int .i64 ru, .int .i64 re, .slice ro rl rc] 31) = W1 := ⟨_, rfl⟩
  have Z1 : P6 W1 w.heap.size nm cr fr up cu (.slice ao n cap) := by rw [← hW1]; exact (P6.new _ _ _ _ _ _ _).on (ba (Below.refl _ _) _)
  have X1 : R5 W1 (w.heap.size + 1) rn rf ru re (.slice ro rl rc) := by
    rw [← hW1]
    have := R5.new (w.alloc (.cells #[.string nm, .string cr, .int .i64 fr, .int .i64 up, .bool cu, .slice ao n cap] 36)) rn rf ru re (.slice ro rl rc)
    simpa using this
  have B1 : Below w.heap.size w W1 := by rw [← hW1]; exact ba (ba (Below.refl _ _) _) _
  have c0 := Z1.c0
  have c1 := Z1.c1
  have c2 := Z1.c2
  have c3 := Z1.c3
  have c4 := Z1.c4
  have c5 := Z1.c5
  go_enter Tryz.func22, Tryz.ntmps22
  go_wp2_with fail
  refine (HD.out _ B1).mono ?_
  rintro e w2 ⟨rfl, hb2⟩
  have Z2 := Z1.on hb2
  have X2 := X1.on hb2
  have B2 := Below.on B1 hb2
  clear c0 c1 c2 c3 c4 c5 Z1 X1 B1 hb2 HD hW1
  cases q with
  | false =>
    have HE : Hid (runB ⟨nm, cr, fr, up, cu, ts⟩ ⟨rn, rf, ru, re, st⟩ = false) := HNO.out rfl
    go_wp2
    go_ret
    exact ⟨by rw [HE.out]; rfl, B2⟩
  | true =>
    have HR2 := HR.out rfl
    have HR3 : Hid (∀ W, Below w.heap.size w W → Calls Tryz.prog 50 #[.agg #[.string rn, .int .i64 rf, .int .i64 ru, .int .i64 re, .slice ro rl rc], .agg #[.string nm, .string cr, .int .i64 fr, .int .i64 up, .bool cu, .slice ao n cap]] W fun e w' => e = .returned (.bool (runB ⟨nm, cr, fr, up, cu, ts⟩ ⟨rn, rf, ru, re, st⟩)) ∧ Below W.heap.size W w') := HR2
    clear HR HR2 HNO
    have c0 := Z2.c0
    have c1 := Z2.c1
    have c2 := Z2.c2
    have c3 := Z2.c3
    have c4 := Z2.c4
    have c5 := Z2.c5
    have x0 := X2.c0
    have x1 := X2.c1
    have x2 := X2.c2
    have x3 := X2.c3
    have x4 := X2.c4
    go_wp2_with fail
    refine (HR3.out _ B2).mono ?_
    rintro e w3 ⟨rfl, hb3⟩
    have B3 := Below.on B2 hb3
    go_wp2
    go_ret
    exact ⟨rfl, B3⟩
end Go.Proofs.YtjmclcjhimcehaaGreatDoor

namespace Go.Proofs.YtjmclcjhimcehaaGreatDoor
open Go Go.RowKit

def S4 (w : World) (g : Nat) (is tr tk tl : Int) : Prop := w.heap[g]? = some (.cells #[.int .i64 is, .int .i64 tr, .int .i64 tk, .int .i64 tl] 85)
section
variable {w w' : World} {g : Nat} {is tr tk tl : Int}
theorem S4.lt (h : S4 w g is tr tk tl) : g < w.heap.size := (Array.getElem?_eq_some_iff.1 h).1
theorem S4.c0 (h : S4 w g is tr tk tl) : w.cell? ⟨g, 0, none⟩ = some (.int .i64 is) := by simp [World.cell?, show w.heap[g]? = _ from h]
theorem S4.s0 (h : S4 w g is tr tk tl) (u : Int) : S4 (w.setCell ⟨g, 0, none⟩ (.int .i64 u)) g u tr tk tl := by simp [S4, World.setCell, Array.getElem?_modify, show w.heap[g]? = _ from h]
theorem S4.c1 (h : S4 w g is tr tk tl) : w.cell? ⟨g, 1, none⟩ = some (.int .i64 tr) := by simp [World.cell?, show w.heap[g]? = _ from h]
theorem S4.s1 (h : S4 w g is tr tk tl) (u : Int) : S4 (w.setCell ⟨g, 1, none⟩ (.int .i64 u)) g is u tk tl := by simp [S4, World.setCell, Array.getElem?_modify, show w.heap[g]? = _ from h]
theorem S4.c2 (h : S4 w g is tr tk tl) : w.cell? ⟨g, 2, none⟩ = some (.int .i64 tk) := by simp [World.cell?, show w.heap[g]? = _ from h]
theorem S4.s2 (h : S4 w g is tr tk tl) (u : Int) : S4 (w.setCell ⟨g, 2, none⟩ (.int .i64 u)) g is tr u tl := by simp [S4, World.setCell, Array.getElem?_modify, show w.heap[g]? = _ from h]
theorem S4.c3 (h : S4 w g is tr tk tl) : w.cell? ⟨g, 3, none⟩ = some (.int .i64 tl) := by simp [World.cell?, show w.heap[g]? = _ from h]
theorem S4.s3 (h : S4 w g is tr tk tl) (u : Int) : S4 (w.setCell ⟨g, 3, none⟩ (.int .i64 u)) g is tr tk u := by simp [S4, World.setCell, Array.getElem?_modify, show w.heap[g]? = _ from h]
theorem S4.fz (h : S4 w g is tr tk tl) (k : Nat) : w.frozen? ⟨g, k, none⟩ = false := by simp [World.frozen?, show w.heap[g]? = _ from h]
theorem S4.on (h : S4 w g is tr tk tl) (hb : Below w.heap.size w w') : S4 w' g is tr tk tl := (hb.block _ h.lt).trans h
theorem S4.grown {r : Option Nat} (h : S4 w g is tr tk tl) (hg : w.grownBy w' r) (hr : some g ≠ r) : S4 w' g is tr tk tl := (hg.block g h.lt hr).trans h
theorem S4.far (h : S4 w g is tr tk tl) {a : Addr} (ha : a.block ≠ g) (u : Value) : S4 (w.setCell a u) g is tr tk tl := (heap_setCell_other w a g u (fun e => ha e.symm)).trans h
theorem S4.new (w : World) (is tr tk tl : Int) : S4 (w.alloc (.cells #[.int .i64 is, .int .i64 tr, .int .i64 tk, .int .i64 tl] 85)) w.heap.size is tr tk tl := by
  show (w.heap.push _)[w.heap.size]? = _; simp
end
end Go.Proofs.YtjmclcjhimcehaaGreatDoor
